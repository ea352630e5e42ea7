/- Parts of the proof: FY. -/
import Derived.Test.YtaipdkfbkcknkaaZAI
import Derived.Test.YtaipdkfbkcknkaaZAC
namespace Go.Proofs.Ytaipdkfbkcknkaa
set_option maxRecDepth 100000
set_option linter.unusedVariables false
open Go.RowKit
theorem grown_but_ {w w' : World} {row : Option Nat} (h : w.grownBy w' row) : KeptBut w w' (fun i => row = some i) := ⟨h.os, h.tape, h.output, h.size, fun i hi hn => h.block i hi (fun e => hn e.symm)⟩
/-- A factor in a variable, a number of which is appended. -/
theorem FacN.grow {w wx w6 : World} {G gr cr n : Nat} {v1 v2 : Value} {vs ds : List Int} {x : Int} (h : FacN w wx G v1 v2 vs ds) (hl : ds.length = n) (hG : w.heap.size < G) (hd : ∀ b, v1.ownBlock = some b → v2.ownBlock ≠ some b)
    (hown : w6.ownsRow w.heap.size 3 1 (.slice (some ⟨gr, 0, none⟩) (n + 1) cr) (n + 1) (ints ds ++ [.int .i64 x])) (hgrow : wx.grownBy w6 v2.ownBlock) (hat : v2.ownBlock = some gr ∨ gr = wx.heap.size) :
    FacN w (w6.setCell ⟨G, 1, none⟩ (.slice (some ⟨gr, 0, none⟩) (n + 1) cr)) G v1 (.slice (some ⟨gr, 0, none⟩) (n + 1) cr) vs (ds ++ [x]) ∧ (∀ b, v1.ownBlock = some b → (Value.slice (some ⟨gr, 0, none⟩) (n + 1) cr).ownBlock ≠ some b) := by
  subst hl
  obtain ⟨h1, h2, h3, h4, h5⟩ := h
  have hA := IOwn.append_ (news := [x]) h1 hown hgrow h5 h5.size
  have hK := grown_but_ hgrow
  have k2 := h2.but hK (fun k e1 e2 => hd k e1 e2)
  have k3 := h3.but hK (fun e => iown_ne h1 h3 (by decide) G e rfl)
  have k4 := h4.but hK (fun e => iown_ne h1 h4 (by decide) _ e rfl)
  have hp : KeptBut w6 (w6.setCell ⟨G, 1, none⟩ (.slice (some ⟨gr, 0, none⟩) (ds.length + 1) cr)) (fun i => i = G) := (KeptBut.refl w6 (fun i => i = G)).put (p := ⟨G, 1, none⟩) (fun _ => rfl) _
  refine ⟨⟨hA.1.but hp (fun k e1 e2 => iown_ne hA.1 k3 (by decide) k e1 e2), k2.but hp (fun k e1 e2 => iown_ne k2 k3 (by decide) k e1 e2), ?_, ?_, hA.2.setCell (p := ⟨G, 1, none⟩) (Nat.le_of_lt hG) _⟩, ?_⟩
  · have := k3.put 1 (.slice (some ⟨gr, 0, none⟩) (ds.length + 1) cr)
    exact this
  · have hne : w.heap.size ≠ G := by omega
    exact k4.far (p := ⟨G, 1, none⟩) hne _
  · intro b hb e
    have e1 : gr = b := by simpa [Value.ownBlock] using e
    subst e1
    rcases hat with hat | hat
    · exact hd _ hb hat
    · obtain ⟨c1, g1⟩ := owns_has h2 hb
      have := g1.lt
      omega
set_option maxHeartbeats 4000000 in
theorem l8Times_M (A1 A2 B1 B2 : Option Addr) (n1 c1 n2 c2 m1 k1 m2 k2 : Nat) (F H : Fac) (M N : Int) (w : World) (hF : FacW w w.heap.size A1 n1 A2 n2 F) (hH : FacW w w.heap.size B1 m1 B2 m2 H) (h1 : facOk M F = true) (h2 : facOk N H = true) (hM0 : 0 ≤ M) (hN0 : 0 ≤ N) (hMN : M * N ≤ 1000000000000000000) :
    Calls Try.prog 72 #[.agg #[.slice A1 n1 c1, .slice A2 n2 c2], .agg #[.slice B1 m1 k1, .slice B2 m2 k2]] w (Fcd w (fTimes F H)) := by
  obtain ⟨a1, a2, a3, a4, a5⟩ := fac_parts h1
  obtain ⟨b1, b2, b3, b4, b5⟩ := fac_parts h2
  have hl1 := hF.1.1
  have hm1 := hH.1.1
  have cS1 := Lib.hid (fun wx hx => l8Set_any A1 n1 c1 F.vs wx hx (by unfold maxLen; omega) a5)
  have cS2 := Lib.hid (fun wx hx => l8Set_any B1 m1 k1 H.vs wx hx (by unfold maxLen; omega) b5)
  have hsF : 0 ≤ setOf F.vs ∧ setOf F.vs ≤ 15 := by have := setOf_bd a5 F.vs.length; rwa [List.take_of_length_le (Nat.le_refl _)] at this
  have hsH : 0 ≤ setOf H.vs ∧ setOf H.vs ≤ 15 := by have := setOf_bd b5 H.vs.length; rwa [List.take_of_length_le (Nat.le_refl _)] at this
  have hor := bits_or hsF hsH
  have hLb := bor_bd (a := setOf F.vs) (b := setOf H.vs) hsF.2 hsH.2
  have cO := Lib.hid (fun wx => l8Over_any (bor (setOf F.vs) (setOf H.vs)) wx hLb)
  have cF := Lib.hid (fun (s : Int) (hs : 0 ≤ s ∧ s ≤ 80) wx hx => l8At_any A1 A2 n1 c1 n2 c2 F s wx hx (by omega) a3 a5 hs)
  have cH := Lib.hid (fun (s : Int) (hs : 0 ≤ s ∧ s ≤ 80) wx hx => l8At_any B1 B2 m1 k1 m2 k2 H s wx hx (by omega) b3 b5 hs)
  have hbF := Lib.hid (fun s => fAt_bd h1 hM0 s)
  have hbH := Lib.hid (fun s => fAt_bd h2 hN0 s)
  have hMh := Lib.hid hM0
  have hMNh := Lib.hid hMN
  clear hM0 hN0 hMN
  have hRes := Lib.hid (show fTimes F H = facBy_ (bor (setOf F.vs) (setOf H.vs)) (fun st => fAt F st * fAt H st) from rfl)
  obtain ⟨g, hg_⟩ : ∃ g : Int → Int, (fun st => fAt F st * fAt H st) = g := ⟨_, rfl⟩
  have hgv := Lib.hid (fun s => show g s = fAt F s * fAt H s from by rw [← hg_])
  rw [hg_] at hRes
  generalize hLe : bor (setOf F.vs) (setOf H.vs) = L at *
  rw [hRes.out]
  have hLh := Lib.hid hLb
  have hB0 : Below w.heap.size w ((w.alloc (.cells #[.slice A1 n1 c1, .slice A2 n2 c2] 36)).alloc (.cells #[.slice B1 m1 k1, .slice B2 m2 k2] 36)) := ((Below.refl _ _).alloc (Nat.le_refl _) _).alloc (by simp) _
  have hf := Lib.hid ((Has.new w 36 #[.slice A1 n1 c1, .slice A2 n2 c2]).alloc (.cells #[.slice B1 m1 k1, .slice B2 m2 k2] 36))
  have hg := Lib.hid (Has.newAt (w := w.alloc (.cells #[.slice A1 n1 c1, .slice A2 n2 c2] 36)) (n := w.heap.size + 1) (t := 36) (cs := #[.slice B1 m1 k1, .slice B2 m2 k2]) (by simp))
  have hF0 := Lib.hid (hF.below hB0)
  have hH0 := Lib.hid (hH.below hB0)
  have hB0h := Lib.hid hB0
  clear hF hH hB0 h1 h2 a1 a2 a3 a4 a5 b1 b2 b3 b4 b5 hg_
  go_enter Try.func72, Try.ntmps72
  go_wp2_with fail
  have hz0 : ((w.alloc (.cells #[.slice A1 n1 c1, .slice A2 n2 c2] 36)).alloc (.cells #[.slice B1 m1 k1, .slice B2 m2 k2] 36)).heap.size = w.heap.size + 1 + 1 := by simp
  generalize (w.alloc (.cells #[.slice A1 n1 c1, .slice A2 n2 c2] 36)).alloc (.cells #[.slice B1 m1 k1, .slice B2 m2 k2] 36) = W0 at hf hg hF0 hH0 hB0h hz0 ⊢
  have hr0 := Has.new W0 36 #[.slice none 0 0, .slice none 0 0]
  have hal0 : Below W0.heap.size W0 _ := (Below.refl _ _).alloc (Nat.le_refl _) (.cells #[.slice none 0 0, .slice none 0 0] 36)
  have hz1 : (W0.alloc (.cells #[.slice none 0 0, .slice none 0 0] 36)).heap.size = W0.heap.size + 1 := by simp
  generalize W0.alloc (.cells #[.slice none 0 0, .slice none 0 0] 36) = W1 at hr0 hal0 hz1 ⊢
  rw [← hz0]
  have hr := Lib.hid hr0
  have hB1 := Lib.hid hal0
  have hWW := hB0h.out.size
  have hfx := Lib.hid (hf.out.kept hB1.out)
  have hgx := Lib.hid (hg.out.kept hB1.out)
  have hFz := Lib.hid (hF0.out.below hB1.out)
  have hHz := Lib.hid (hH0.out.below hB1.out)
  obtain ⟨i0, hi0, hi1, hi2, hi3⟩ := info_parts info_int
  clear hr0 hal0 hz0
  refine wp_region_any (by kernel_rfl) ?_
  change wpAny _ _ _ _ _ _ _ (World.drew _)
  refine wpAny_last (n := 10) (I := fun listed aq wx => listed.size = 11 ∧ ∃ v5 v8 v9 v10 v11 v12 v13 v14 v15 v16 : Value, aq = { tmps := #[.agg #[.slice A1 n1 c1, .slice A2 n2 c2], .agg #[.slice B1 m1 k1, .slice B2 m2 k2], .pointer (some ⟨w.heap.size, 0, none⟩), .pointer (some ⟨w.heap.size + 1, 0, none⟩), .pointer (some ⟨W0.heap.size, 0, none⟩), v5, undef, undef, v8, v9, v10, v11, v12, v13, v14, v15, v16, undef, undef, undef, undef, undef, undef, undef, undef, undef, undef, undef, undef, undef, undef, undef, undef, undef, undef, undef, undef, undef, undef, undef, undef, undef], defers := [] } ∧ (listed.getD 0 false = true → v8 = .pointer (some ⟨w.heap.size, 0, none⟩)) ∧ (listed.getD 1 false = true → v9 = .slice A1 n1 c1) ∧ (listed.getD 2 false = true → v10 = .int .i64 (setOf F.vs)) ∧ (listed.getD 3 false = true → v11 = .pointer (some ⟨w.heap.size + 1, 0, none⟩)) ∧ (listed.getD 4 false = true → v12 = .slice B1 m1 k1) ∧ (listed.getD 5 false = true → v13 = .int .i64 (setOf H.vs)) ∧ (listed.getD 6 false = true → v14 = .int .i64 L) ∧ (listed.getD 7 false = true → (∃ (D : Option Addr) (cd : Nat), v15 = .slice D (over L).length cd ∧ IOwn wx W1.heap.size (.slice D (over L).length cd) (over L))) ∧ (listed.getD 8 false = true → (∃ (D : Option Addr) (cd : Nat), v16 = .agg #[.slice D (over L).length cd, .slice none 0 0] ∧ IOwn wx W1.heap.size (.slice D (over L).length cd) (over L))) ∧ (listed.getD 9 false = true → (∃ G9, v5 = .pointer (some ⟨G9, 0, none⟩) ∧ W1.heap.size ≤ G9 ∧ Has wx G9 36 #[.slice none 0 0, .slice none 0 0])) ∧ Below W1.heap.size W1 wx) rfl (by kernel_rfl) (by kernel_rfl) ?hs ?hl _ _ _ ?st rfl (by decide) _ (by decide)
  case st =>
    refine ⟨rfl, undef, undef, undef, undef, undef, undef, undef, undef, undef, undef, rfl, ?_, ?_, ?_, ?_, ?_, ?_, ?_, ?_, ?_, ?_, (Below.refl _ _).drew⟩ <;> (intro e; exact absurd e (by decide))
  case hs =>
    rintro listed aq wx ⟨hz, v5, v8, v9, v10, v11, v12, v13, v14, v15, v16, rfl, hII⟩ i hin hi
    obtain ⟨h0, o, ho, hd⟩ := mem_ready.1 hi
    have K0 := Lib.hid hII.1
    have K1 := Lib.hid hII.2.1
    have K2 := Lib.hid hII.2.2.1
    have K3 := Lib.hid hII.2.2.2.1
    have K4 := Lib.hid hII.2.2.2.2.1
    have K5 := Lib.hid hII.2.2.2.2.2.1
    have K6 := Lib.hid hII.2.2.2.2.2.2.1
    have K7 := Lib.hid hII.2.2.2.2.2.2.2.1
    have K8 := Lib.hid hII.2.2.2.2.2.2.2.2.1
    have K9 := Lib.hid hII.2.2.2.2.2.2.2.2.2.1
    have hB : Below W1.heap.size W1 wx := hII.2.2.2.2.2.2.2.2.2.2
    have hne := Lib.hid (fun k (hk : i ≠ k) => @listed_ne listed i k hk)
    have hx := hfx.out.kept hB
    have hy := hgx.out.kept hB
    have hFx : FacW wx wx.heap.size A1 n1 A2 n2 F := hFz.out.below hB
    have hHx : FacW wx wx.heap.size B1 m1 B2 m2 H := hHz.out.below hB
    clear hII hi h0
    rcases (by omega : i = 0 ∨ i = 1 ∨ i = 2 ∨ i = 3 ∨ i = 4 ∨ i = 5 ∨ i = 6 ∨ i = 7 ∨ i = 8 ∨ i = 9) with rfl | rfl | rfl | rfl | rfl | rfl | rfl | rfl | rfl | rfl
    · cases ho
      refine wpOp_step rfl (fun K hK => ?_)
      go_simp
      refine hK _ _ ⟨by simpa using hz, v5, .pointer (some ⟨w.heap.size, 0, none⟩), v9, v10, v11, v12, v13, v14, v15, v16, rfl, ?_⟩
      exact ⟨fun _ => rfl, fun e => K1.out (hne.out 1 (by decide) e), fun e => K2.out (hne.out 2 (by decide) e), fun e => K3.out (hne.out 3 (by decide) e), fun e => K4.out (hne.out 4 (by decide) e), fun e => K5.out (hne.out 5 (by decide) e), fun e => K6.out (hne.out 6 (by decide) e), fun e => K7.out (hne.out 7 (by decide) e), fun e => K8.out (hne.out 8 (by decide) e), fun e => K9.out (hne.out 9 (by decide) e), hB⟩
    · cases ho
      have d0 := hd ⟨0, .data⟩ (by simp) rfl
      obtain rfl := K0.out d0
      have hxc := hx.cell
      refine wpOp_step rfl (fun K hK => ?_)
      go_simp
      refine hK _ _ ⟨by simpa using hz, v5, .pointer (some ⟨w.heap.size, 0, none⟩), .slice A1 n1 c1, v10, v11, v12, v13, v14, v15, v16, rfl, ?_⟩
      exact ⟨fun e => K0.out (hne.out 0 (by decide) e), fun _ => rfl, fun e => K2.out (hne.out 2 (by decide) e), fun e => K3.out (hne.out 3 (by decide) e), fun e => K4.out (hne.out 4 (by decide) e), fun e => K5.out (hne.out 5 (by decide) e), fun e => K6.out (hne.out 6 (by decide) e), fun e => K7.out (hne.out 7 (by decide) e), fun e => K8.out (hne.out 8 (by decide) e), fun e => K9.out (hne.out 9 (by decide) e), hB⟩
    · cases ho
      have d1 := hd ⟨1, .data⟩ (by simp) rfl
      obtain rfl := K1.out d1
      refine wpOp_step rfl (fun K hK => ?_)
      go_simp
      go_at_call 116
      refine (cS1.out _ hFx.1).mono ?_
      rintro e w3 ⟨rfl, rfl⟩
      refine hK _ _ ⟨by simpa using hz, v5, v8, .slice A1 n1 c1, .int .i64 (setOf F.vs), v11, v12, v13, v14, v15, v16, rfl, ?_⟩
      exact ⟨fun e => K0.out (hne.out 0 (by decide) e), fun e => K1.out (hne.out 1 (by decide) e), fun _ => rfl, fun e => K3.out (hne.out 3 (by decide) e), fun e => K4.out (hne.out 4 (by decide) e), fun e => K5.out (hne.out 5 (by decide) e), fun e => K6.out (hne.out 6 (by decide) e), fun e => K7.out (hne.out 7 (by decide) e), fun e => K8.out (hne.out 8 (by decide) e), fun e => K9.out (hne.out 9 (by decide) e), hB⟩
    · cases ho
      refine wpOp_step rfl (fun K hK => ?_)
      go_simp
      refine hK _ _ ⟨by simpa using hz, v5, v8, v9, v10, .pointer (some ⟨w.heap.size + 1, 0, none⟩), v12, v13, v14, v15, v16, rfl, ?_⟩
      exact ⟨fun e => K0.out (hne.out 0 (by decide) e), fun e => K1.out (hne.out 1 (by decide) e), fun e => K2.out (hne.out 2 (by decide) e), fun _ => rfl, fun e => K4.out (hne.out 4 (by decide) e), fun e => K5.out (hne.out 5 (by decide) e), fun e => K6.out (hne.out 6 (by decide) e), fun e => K7.out (hne.out 7 (by decide) e), fun e => K8.out (hne.out 8 (by decide) e), fun e => K9.out (hne.out 9 (by decide) e), hB⟩
    · cases ho
      have d3 := hd ⟨3, .data⟩ (by simp) rfl
      obtain rfl := K3.out d3
      have hyc := hy.cell
      refine wpOp_step rfl (fun K hK => ?_)
      go_simp
      refine hK _ _ ⟨by simpa using hz, v5, v8, v9, v10, .pointer (some ⟨w.heap.size + 1, 0, none⟩), .slice B1 m1 k1, v13, v14, v15, v16, rfl, ?_⟩
      exact ⟨fun e => K0.out (hne.out 0 (by decide) e), fun e => K1.out (hne.out 1 (by decide) e), fun e => K2.out (hne.out 2 (by decide) e), fun e => K3.out (hne.out 3 (by decide) e), fun _ => rfl, fun e => K5.out (hne.out 5 (by decide) e), fun e => K6.out (hne.out 6 (by decide) e), fun e => K7.out (hne.out 7 (by decide) e), fun e => K8.out (hne.out 8 (by decide) e), fun e => K9.out (hne.out 9 (by decide) e), hB⟩
    · cases ho
      have d4 := hd ⟨4, .data⟩ (by simp) rfl
      obtain rfl := K4.out d4
      refine wpOp_step rfl (fun K hK => ?_)
      go_simp
      go_at_call 116
      refine (cS2.out _ hHx.1).mono ?_
      rintro e w3 ⟨rfl, rfl⟩
      refine hK _ _ ⟨by simpa using hz, v5, v8, v9, v10, v11, .slice B1 m1 k1, .int .i64 (setOf H.vs), v14, v15, v16, rfl, ?_⟩
      exact ⟨fun e => K0.out (hne.out 0 (by decide) e), fun e => K1.out (hne.out 1 (by decide) e), fun e => K2.out (hne.out 2 (by decide) e), fun e => K3.out (hne.out 3 (by decide) e), fun e => K4.out (hne.out 4 (by decide) e), fun _ => rfl, fun e => K6.out (hne.out 6 (by decide) e), fun e => K7.out (hne.out 7 (by decide) e), fun e => K8.out (hne.out 8 (by decide) e), fun e => K9.out (hne.out 9 (by decide) e), hB⟩
    · cases ho
      have d2 := hd ⟨2, .data⟩ (by simp) rfl
      have d5 := hd ⟨5, .data⟩ (by simp) rfl
      obtain rfl := K2.out d2
      obtain rfl := K5.out d5
      refine wpOp_step rfl (fun K hK => ?_)
      go_simp
      refine hK _ _ ⟨by simpa using hz, v5, v8, v9, .int .i64 (setOf F.vs), v11, v12, .int .i64 (setOf H.vs), .int .i64 L, v15, v16, rfl, ?_⟩
      exact ⟨fun e => K0.out (hne.out 0 (by decide) e), fun e => K1.out (hne.out 1 (by decide) e), fun e => K2.out (hne.out 2 (by decide) e), fun e => K3.out (hne.out 3 (by decide) e), fun e => K4.out (hne.out 4 (by decide) e), fun e => K5.out (hne.out 5 (by decide) e), fun _ => rfl, fun e => K7.out (hne.out 7 (by decide) e), fun e => K8.out (hne.out 8 (by decide) e), fun e => K9.out (hne.out 9 (by decide) e), hB⟩
    · cases ho
      have d6 := hd ⟨6, .data⟩ (by simp) rfl
      obtain rfl := K6.out d6
      refine wpOp_step rfl (fun K hK => ?_)
      go_simp
      go_at_call 115
      refine (cO.out _).mono ?_
      rintro e w3 ⟨u3, rfl, hD, hb3⟩
      obtain ⟨D, cd, rfl, _, _⟩ := hD.form
      refine hK _ _ ⟨by simpa using hz, v5, v8, v9, v10, v11, v12, v13, .int .i64 L, .slice D _ cd, v16, rfl, ?_⟩
      exact ⟨fun e => K0.out (hne.out 0 (by decide) e), fun e => K1.out (hne.out 1 (by decide) e), fun e => K2.out (hne.out 2 (by decide) e), fun e => K3.out (hne.out 3 (by decide) e), fun e => K4.out (hne.out 4 (by decide) e), fun e => K5.out (hne.out 5 (by decide) e), fun e => K6.out (hne.out 6 (by decide) e), fun _ => ⟨_, _, rfl, owns_le hD hB.size⟩, fun e => (by obtain ⟨y1, y2, y3, y4⟩ := K8.out (hne.out 8 (by decide) e); exact ⟨y1, y2, y3, y4.below hb3⟩), fun e => (by obtain ⟨G9, y1, y2, y3⟩ := K9.out (hne.out 9 (by decide) e); exact ⟨G9, y1, y2, y3.kept hb3⟩), hB.trans (hb3.mono hB.size)⟩
    · cases ho
      have d7 := hd ⟨7, .data⟩ (by simp) rfl
      obtain ⟨D0, cd0, rfl, hD0⟩ := K7.out d7
      refine wpOp_step rfl (fun K hK => ?_)
      go_simp
      refine hK _ _ ⟨by simpa using hz, v5, v8, v9, v10, v11, v12, v13, v14, .slice D0 (over L).length cd0, .agg #[.slice D0 (over L).length cd0, .slice none 0 0], rfl, ?_⟩
      exact ⟨fun e => K0.out (hne.out 0 (by decide) e), fun e => K1.out (hne.out 1 (by decide) e), fun e => K2.out (hne.out 2 (by decide) e), fun e => K3.out (hne.out 3 (by decide) e), fun e => K4.out (hne.out 4 (by decide) e), fun e => K5.out (hne.out 5 (by decide) e), fun e => K6.out (hne.out 6 (by decide) e), fun e => K7.out (hne.out 7 (by decide) e), fun _ => ⟨_, _, rfl, hD0⟩, fun e => K9.out (hne.out 9 (by decide) e), hB⟩
    · cases ho
      refine wpOp_step rfl (fun K hK => ?_)
      go_simp
      refine hK _ _ ⟨by simpa using hz, .pointer (some ⟨wx.heap.size, 0, none⟩), v8, v9, v10, v11, v12, v13, v14, v15, v16, rfl, ?_⟩
      exact ⟨fun e => K0.out (hne.out 0 (by decide) e), fun e => K1.out (hne.out 1 (by decide) e), fun e => K2.out (hne.out 2 (by decide) e), fun e => K3.out (hne.out 3 (by decide) e), fun e => K4.out (hne.out 4 (by decide) e), fun e => K5.out (hne.out 5 (by decide) e), fun e => K6.out (hne.out 6 (by decide) e), fun e => (by obtain ⟨y1, y2, y3, y4⟩ := K7.out (hne.out 7 (by decide) e); exact ⟨y1, y2, y3, y4.below ((Below.refl _ _).alloc (Nat.le_refl _) _)⟩), fun e => (by obtain ⟨y1, y2, y3, y4⟩ := K8.out (hne.out 8 (by decide) e); exact ⟨y1, y2, y3, y4.below ((Below.refl _ _).alloc (Nat.le_refl _) _)⟩), fun _ => ⟨_, rfl, hB.size, Has.new _ _ _⟩, hB.alloc hB.size _⟩
  case hl =>
    rintro listed aq wx ⟨hz, v5, v8, v9, v10, v11, v12, v13, v14, v15, v16, rfl, hII⟩ hall
    have K0 := Lib.hid hII.1
    have K1 := Lib.hid hII.2.1
    have K2 := Lib.hid hII.2.2.1
    have K3 := Lib.hid hII.2.2.2.1
    have K4 := Lib.hid hII.2.2.2.2.1
    have K5 := Lib.hid hII.2.2.2.2.2.1
    have K6 := Lib.hid hII.2.2.2.2.2.2.1
    have K7 := Lib.hid hII.2.2.2.2.2.2.2.1
    have K8 := Lib.hid hII.2.2.2.2.2.2.2.2.1
    have K9 := Lib.hid hII.2.2.2.2.2.2.2.2.2.1
    have hB : Below W1.heap.size W1 wx := hII.2.2.2.2.2.2.2.2.2.2
    have hx := hfx.out.kept hB
    have hy := hgx.out.kept hB
    have hFx : FacW wx wx.heap.size A1 n1 A2 n2 F := hFz.out.below hB
    have hHx : FacW wx wx.heap.size B1 m1 B2 m2 H := hHz.out.below hB
    clear hII
    obtain rfl := K0.out (hall 0 (by decide))
    obtain rfl := K1.out (hall 1 (by decide))
    obtain rfl := K2.out (hall 2 (by decide))
    obtain rfl := K3.out (hall 3 (by decide))
    obtain rfl := K4.out (hall 4 (by decide))
    obtain rfl := K5.out (hall 5 (by decide))
    obtain rfl := K6.out (hall 6 (by decide))
    obtain ⟨D0, cd0, rfl, hD0⟩ := K7.out (hall 7 (by decide))
    obtain ⟨D, cd, rfl, hD⟩ := K8.out (hall 8 (by decide))
    obtain ⟨G9, rfl, hG0, hG⟩ := K9.out (hall 9 (by decide))
    clear hall K0 K1 K2 K3 K4 K5 K6 K7 K8 K9
    have hgc := hG.cell
    have hgf := hG.frozen
    refine wpOp_step rfl (fun K0 hK0 => ?_)
    go_simp
    refine hK0 _ _ ?_
    clear hK0
    have hN1 := Lib.hid (show FacN W0 ((wx.setCell ⟨G9, 0, none⟩ (.slice D (over L).length cd)).setCell ⟨G9, 1, none⟩ (.slice none 0 0)) G9 (.slice D (over L).length cd) (.slice none 0 0) (over L) [] from by
      have hk := ((KeptBut.refl wx (fun i => i = G9)).put (p := ⟨G9, 0, none⟩) (fun _ => rfl) (.slice D (over L).length cd)).put (p := ⟨G9, 1, none⟩) (fun _ => rfl) (.slice none 0 0)
      refine ⟨IOwn.nil _ _, owns_le (hD.but hk (fun k e1 e2 => iown_ne hD hG (by decide) k e1 e2)) hB1.out.size, (hG.put 0 (.slice D (over L).length cd)).put 1 (.slice none 0 0), (hr.out.kept hB).but hk (fun e => by omega), ?_⟩
      have h9 := hB1.out.trans (hB.mono hB1.out.size)
      have h8 : W0.heap.size ≤ G9 := by omega
      exact (h9.setCell (p := ⟨G9, 0, none⟩) h8 _).setCell (p := ⟨G9, 1, none⟩) h8 _)
    have hd1 := Lib.hid (show ∀ b, (Value.slice D (over L).length cd).ownBlock = some b → (Value.slice none 0 0).ownBlock ≠ some b from fun b _ e => by cases e)
    have hG1 : W0.heap.size < G9 := by omega
    clear hx hy hFx hHx hgc hgf hD hG
    generalize (wx.setCell ⟨G9, 0, none⟩ (.slice D (over L).length cd)).setCell ⟨G9, 1, none⟩ (.slice none 0 0) = W2 at hN1 ⊢
    have hlb := over_len hLh.out
    have hpb := pow_four hlb
    have cP := Lib.hid (fun wx => l1Power_four (over L).length hlb wx)
    have hall := Lib.hid (facPre_all L g)
    generalize hMM : 3 ^ (over L).length = Q at *
    go_wp2_with fail
    clear hB hB1 hfx hgx hFz hHz
    go_loopg [6] Q (fun gn v wr => ∃ (k : Nat) (v2 : Value), k ≤ Q ∧ gn = Q - k ∧ v = .int .i64 k ∧ FacN W0 wr G9 (.slice D (over L).length cd) v2 (over L) (facPre L g k) ∧ (∀ b, (Value.slice D (over L).length cd).ownBlock = some b → v2.ownBlock ≠ some b))
    case atStart => exact ⟨0, _, Nat.zero_le _, rfl, rfl, hN1.out, hd1.out⟩
    case round =>
      obtain ⟨k, v2, hk, hgn, rfl, hN, hd⟩ := hrel
      have hgk : gk = Q - k := hgn
      have hpl := facPre_len L g k
      obtain ⟨E2, e2, rfl, hE1, hE2⟩ := hN.1.form
      rw [hpl] at hN hd hE1
      have hNh := Lib.hid hN
      have hdh := Lib.hid hd
      have cA := hN.2.2.1.cell
      clear hgn hN hd
      by_cases hlt : k < Q
      · have hk0 : (0 : Int) ≤ (k : Int) := by omega
        have hk1 : (k : Int) < (Q : Int) := by omega
        have hsb := stOver_bd hLh.out (i := k)
        have cT := Lib.hid (fun wx hx => l8State_any D (over L).length cd (over L) (k : Int) wx hx (by unfold maxLen; omega) (over_in hLh.out) (by omega))
        have hnx := Lib.hid (facPre_succ L g k)
        generalize stOf (over L) (k : Int) = s at hsb hnx cT
        have cF1 := Lib.hid (cF.out s hsb)
        have cH1 := Lib.hid (cH.out s hsb)
        have hb1 := Lib.hid (hbF.out s)
        have hb2 := Lib.hid (hbH.out s)
        rw [hgv.out] at hnx
        generalize fAt F s = y at hb1 hnx cF1
        generalize fAt H s = z at hb2 hnx cH1
        have hyz : 0 ≤ y * z ∧ y * z ≤ 1000000000000000000 := ⟨Int.mul_nonneg hb1.out.1 hb2.out.1, Int.le_trans (Int.mul_le_mul hb1.out.2 hb2.out.2 hb2.out.1 hMh.out) hMNh.out⟩
        have hwm : IntKind.i64.wrap (y * z) = y * z := by rw [IntKind.wrap_i64]; omega
        go_wp2_with fail
        refine (cP.out _).mono ?_
        rintro e w' ⟨rfl, rfl⟩
        go_wp2_with fail
        refine (cT.out _ hNh.out.2.1.lst).mono ?_
        rintro e w' ⟨rfl, rfl⟩
        go_wp2_with fail
        refine wp_region_any (by kernel_rfl) ?_
        change wpAny _ _ _ _ _ _ _ (World.drew _)
        refine wpAny_tail (n := 10) (c := 2) (I := fun listed aq wx => listed.size = 13 ∧ ∃ v29 v30 v31 v32 v33 v34 v35 v36 v37 v38 : Value, aq = { tmps := #[.agg #[.slice A1 n1 c1, .slice A2 n2 c2], .agg #[.slice B1 m1 k1, .slice B2 m2 k2], .pointer (some ⟨w.heap.size, 0, none⟩), .pointer (some ⟨w.heap.size + 1, 0, none⟩), .pointer (some ⟨W0.heap.size, 0, none⟩), .pointer (some ⟨G9, 0, none⟩), .int .i64 ↑k, .int .i64 s, .pointer (some ⟨w.heap.size, 0, none⟩), .slice A1 n1 c1, .int .i64 (setOf F.vs), .pointer (some ⟨w.heap.size + 1, 0, none⟩), .slice B1 m1 k1, .int .i64 (setOf H.vs), .int .i64 L, .slice D0 (over L).length cd0, .agg #[.slice D (over L).length cd, .slice none 0 0], .int .i64 ↑k, .pointer (some ⟨G9, 0, none⟩), .slice D (over L).length cd, .int .i64 ↑(over L).length, .int .i64 ↑Q, .bool true, u23, u24, .pointer (some ⟨G9, 0, none⟩), .slice D (over L).length cd, .int .i64 ↑k, .int .i64 s, v29, v30, v31, v32, v33, v34, v35, v36, v37, v38, u39, u40, undef], defers := [] } ∧ (listed.getD 0 false = true → v29 = .pointer (some ⟨G9, 1, none⟩)) ∧ (listed.getD 1 false = true → v30 = .slice E2 k e2) ∧ (listed.getD 2 false = true → v31 = .agg #[.slice A1 n1 c1, .slice A2 n2 c2]) ∧ (listed.getD 3 false = true → v32 = .int .i64 s) ∧ (listed.getD 4 false = true → v33 = .int .i64 y) ∧ (listed.getD 5 false = true → v34 = .agg #[.slice B1 m1 k1, .slice B2 m2 k2]) ∧ (listed.getD 6 false = true → v35 = .int .i64 s) ∧ (listed.getD 7 false = true → v36 = .int .i64 z) ∧ (listed.getD 8 false = true → v37 = .int .i64 (y * z)) ∧ (listed.getD 9 false = true → (∃ g9, v38 = .slice (some ⟨g9, 0, none⟩) 1 1 ∧ Has wx g9 3 #[.int .i64 (y * z)])) ∧ Below wr.heap.size wr wx) rfl (by kernel_rfl) (by kernel_rfl) (by kernel_rfl) ?hs ?hl _ _ _ ?st rfl (by decide) _ (by decide)
        case st =>
          refine ⟨rfl, u29, u30, u31, u32, u33, u34, u35, u36, u37, u38, rfl, ?_, ?_, ?_, ?_, ?_, ?_, ?_, ?_, ?_, ?_, (Below.refl _ _).drew⟩ <;> (intro e; exact absurd e (by decide))
        case hs =>
          rintro listed aq wx ⟨hz, v29, v30, v31, v32, v33, v34, v35, v36, v37, v38, rfl, hII⟩ i hin hi
          obtain ⟨h0, o, ho, hd⟩ := mem_ready.1 hi
          have K0 := Lib.hid hII.1
          have K1 := Lib.hid hII.2.1
          have K2 := Lib.hid hII.2.2.1
          have K3 := Lib.hid hII.2.2.2.1
          have K4 := Lib.hid hII.2.2.2.2.1
          have K5 := Lib.hid hII.2.2.2.2.2.1
          have K6 := Lib.hid hII.2.2.2.2.2.2.1
          have K7 := Lib.hid hII.2.2.2.2.2.2.2.1
          have K8 := Lib.hid hII.2.2.2.2.2.2.2.2.1
          have K9 := Lib.hid hII.2.2.2.2.2.2.2.2.2.1
          have hB : Below wr.heap.size wr wx := hII.2.2.2.2.2.2.2.2.2.2
          have hne := Lib.hid (fun k (hk : i ≠ k) => @listed_ne listed i k hk)
          have hNx := hNh.out.below hB
          have hx := hf.out.kept hNx.2.2.2.2
          have hy := hg.out.kept hNx.2.2.2.2
          have hFx : FacW wx wx.heap.size A1 n1 A2 n2 F := hF0.out.below hNx.2.2.2.2
          have hHx : FacW wx wx.heap.size B1 m1 B2 m2 H := hH0.out.below hNx.2.2.2.2
          clear hII hi h0
          rcases (by omega : i = 0 ∨ i = 1 ∨ i = 2 ∨ i = 3 ∨ i = 4 ∨ i = 5 ∨ i = 6 ∨ i = 7 ∨ i = 8 ∨ i = 9) with rfl | rfl | rfl | rfl | rfl | rfl | rfl | rfl | rfl | rfl
          · cases ho
            refine wpOp_step rfl (fun K hK => ?_)
            go_simp
            refine hK _ _ ⟨by simpa using hz, .pointer (some ⟨G9, 1, none⟩), v30, v31, v32, v33, v34, v35, v36, v37, v38, rfl, ?_⟩
            exact ⟨fun _ => rfl, fun e => K1.out (hne.out 1 (by decide) e), fun e => K2.out (hne.out 2 (by decide) e), fun e => K3.out (hne.out 3 (by decide) e), fun e => K4.out (hne.out 4 (by decide) e), fun e => K5.out (hne.out 5 (by decide) e), fun e => K6.out (hne.out 6 (by decide) e), fun e => K7.out (hne.out 7 (by decide) e), fun e => K8.out (hne.out 8 (by decide) e), fun e => K9.out (hne.out 9 (by decide) e), hB⟩
          · cases ho
            have d0 := hd ⟨0, .data⟩ (by simp) rfl
            obtain rfl := K0.out d0
            have hgc := hNx.2.2.1.cell
            refine wpOp_step rfl (fun K hK => ?_)
            go_simp
            refine hK _ _ ⟨by simpa using hz, .pointer (some ⟨G9, 1, none⟩), .slice E2 k e2, v31, v32, v33, v34, v35, v36, v37, v38, rfl, ?_⟩
            exact ⟨fun e => K0.out (hne.out 0 (by decide) e), fun _ => rfl, fun e => K2.out (hne.out 2 (by decide) e), fun e => K3.out (hne.out 3 (by decide) e), fun e => K4.out (hne.out 4 (by decide) e), fun e => K5.out (hne.out 5 (by decide) e), fun e => K6.out (hne.out 6 (by decide) e), fun e => K7.out (hne.out 7 (by decide) e), fun e => K8.out (hne.out 8 (by decide) e), fun e => K9.out (hne.out 9 (by decide) e), hB⟩
          · cases ho
            have hxc := hx.cell
            refine wpOp_step rfl (fun K hK => ?_)
            go_simp
            refine hK _ _ ⟨by simpa using hz, v29, v30, .agg #[.slice A1 n1 c1, .slice A2 n2 c2], v32, v33, v34, v35, v36, v37, v38, rfl, ?_⟩
            exact ⟨fun e => K0.out (hne.out 0 (by decide) e), fun e => K1.out (hne.out 1 (by decide) e), fun _ => rfl, fun e => K3.out (hne.out 3 (by decide) e), fun e => K4.out (hne.out 4 (by decide) e), fun e => K5.out (hne.out 5 (by decide) e), fun e => K6.out (hne.out 6 (by decide) e), fun e => K7.out (hne.out 7 (by decide) e), fun e => K8.out (hne.out 8 (by decide) e), fun e => K9.out (hne.out 9 (by decide) e), hB⟩
          · cases ho
            refine wpOp_step rfl (fun K hK => ?_)
            go_simp
            refine hK _ _ ⟨by simpa using hz, v29, v30, v31, .int .i64 s, v33, v34, v35, v36, v37, v38, rfl, ?_⟩
            exact ⟨fun e => K0.out (hne.out 0 (by decide) e), fun e => K1.out (hne.out 1 (by decide) e), fun e => K2.out (hne.out 2 (by decide) e), fun _ => rfl, fun e => K4.out (hne.out 4 (by decide) e), fun e => K5.out (hne.out 5 (by decide) e), fun e => K6.out (hne.out 6 (by decide) e), fun e => K7.out (hne.out 7 (by decide) e), fun e => K8.out (hne.out 8 (by decide) e), fun e => K9.out (hne.out 9 (by decide) e), hB⟩
          · cases ho
            have d2 := hd ⟨2, .data⟩ (by simp) rfl
            have d3 := hd ⟨3, .data⟩ (by simp) rfl
            obtain rfl := K2.out d2
            obtain rfl := K3.out d3
            refine wpOp_step rfl (fun K hK => ?_)
            go_simp
            go_at_call 108
            refine (cF1.out _ hFx).mono ?_
            rintro e w3 ⟨rfl, hb3⟩
            refine hK _ _ ⟨by simpa using hz, v29, v30, .agg #[.slice A1 n1 c1, .slice A2 n2 c2], .int .i64 s, .int .i64 y, v34, v35, v36, v37, v38, rfl, ?_⟩
            exact ⟨fun e => K0.out (hne.out 0 (by decide) e), fun e => K1.out (hne.out 1 (by decide) e), fun e => K2.out (hne.out 2 (by decide) e), fun e => K3.out (hne.out 3 (by decide) e), fun _ => rfl, fun e => K5.out (hne.out 5 (by decide) e), fun e => K6.out (hne.out 6 (by decide) e), fun e => K7.out (hne.out 7 (by decide) e), fun e => K8.out (hne.out 8 (by decide) e), fun e => (by obtain ⟨y1, y2, y3⟩ := K9.out (hne.out 9 (by decide) e); exact ⟨y1, y2, y3.kept hb3⟩), hB.trans (hb3.mono hB.size)⟩
          · cases ho
            have hyc := hy.cell
            refine wpOp_step rfl (fun K hK => ?_)
            go_simp
            refine hK _ _ ⟨by simpa using hz, v29, v30, v31, v32, v33, .agg #[.slice B1 m1 k1, .slice B2 m2 k2], v35, v36, v37, v38, rfl, ?_⟩
            exact ⟨fun e => K0.out (hne.out 0 (by decide) e), fun e => K1.out (hne.out 1 (by decide) e), fun e => K2.out (hne.out 2 (by decide) e), fun e => K3.out (hne.out 3 (by decide) e), fun e => K4.out (hne.out 4 (by decide) e), fun _ => rfl, fun e => K6.out (hne.out 6 (by decide) e), fun e => K7.out (hne.out 7 (by decide) e), fun e => K8.out (hne.out 8 (by decide) e), fun e => K9.out (hne.out 9 (by decide) e), hB⟩
          · cases ho
            refine wpOp_step rfl (fun K hK => ?_)
            go_simp
            refine hK _ _ ⟨by simpa using hz, v29, v30, v31, v32, v33, v34, .int .i64 s, v36, v37, v38, rfl, ?_⟩
            exact ⟨fun e => K0.out (hne.out 0 (by decide) e), fun e => K1.out (hne.out 1 (by decide) e), fun e => K2.out (hne.out 2 (by decide) e), fun e => K3.out (hne.out 3 (by decide) e), fun e => K4.out (hne.out 4 (by decide) e), fun e => K5.out (hne.out 5 (by decide) e), fun _ => rfl, fun e => K7.out (hne.out 7 (by decide) e), fun e => K8.out (hne.out 8 (by decide) e), fun e => K9.out (hne.out 9 (by decide) e), hB⟩
          · cases ho
            have d5 := hd ⟨5, .data⟩ (by simp) rfl
            have d6 := hd ⟨6, .data⟩ (by simp) rfl
            obtain rfl := K5.out d5
            obtain rfl := K6.out d6
            refine wpOp_step rfl (fun K hK => ?_)
            go_simp
            go_at_call 108
            refine (cH1.out _ hHx).mono ?_
            rintro e w3 ⟨rfl, hb3⟩
            refine hK _ _ ⟨by simpa using hz, v29, v30, v31, v32, v33, .agg #[.slice B1 m1 k1, .slice B2 m2 k2], .int .i64 s, .int .i64 z, v37, v38, rfl, ?_⟩
            exact ⟨fun e => K0.out (hne.out 0 (by decide) e), fun e => K1.out (hne.out 1 (by decide) e), fun e => K2.out (hne.out 2 (by decide) e), fun e => K3.out (hne.out 3 (by decide) e), fun e => K4.out (hne.out 4 (by decide) e), fun e => K5.out (hne.out 5 (by decide) e), fun e => K6.out (hne.out 6 (by decide) e), fun _ => rfl, fun e => K8.out (hne.out 8 (by decide) e), fun e => (by obtain ⟨y1, y2, y3⟩ := K9.out (hne.out 9 (by decide) e); exact ⟨y1, y2, y3.kept hb3⟩), hB.trans (hb3.mono hB.size)⟩
          · cases ho
            have d4 := hd ⟨4, .data⟩ (by simp) rfl
            have d7 := hd ⟨7, .data⟩ (by simp) rfl
            obtain rfl := K4.out d4
            obtain rfl := K7.out d7
            refine wpOp_step rfl (fun K hK => ?_)
            go_simp
            refine hK _ _ ⟨by simpa using hz, v29, v30, v31, v32, .int .i64 y, v34, v35, .int .i64 z, .int .i64 (y * z), v38, rfl, ?_⟩
            exact ⟨fun e => K0.out (hne.out 0 (by decide) e), fun e => K1.out (hne.out 1 (by decide) e), fun e => K2.out (hne.out 2 (by decide) e), fun e => K3.out (hne.out 3 (by decide) e), fun e => K4.out (hne.out 4 (by decide) e), fun e => K5.out (hne.out 5 (by decide) e), fun e => K6.out (hne.out 6 (by decide) e), fun e => K7.out (hne.out 7 (by decide) e), fun _ => rfl, fun e => K9.out (hne.out 9 (by decide) e), hB⟩
          · cases ho
            have d8 := hd ⟨8, .data⟩ (by simp) rfl
            obtain rfl := K8.out d8
            refine wpOp_step rfl (fun K hK => ?_)
            go_simp
            refine hK _ _ ⟨by simpa using hz, v29, v30, v31, v32, v33, v34, v35, v36, .int .i64 (y * z), .slice (some ⟨wx.heap.size, 0, none⟩) 1 1, rfl, ?_⟩
            exact ⟨fun e => K0.out (hne.out 0 (by decide) e), fun e => K1.out (hne.out 1 (by decide) e), fun e => K2.out (hne.out 2 (by decide) e), fun e => K3.out (hne.out 3 (by decide) e), fun e => K4.out (hne.out 4 (by decide) e), fun e => K5.out (hne.out 5 (by decide) e), fun e => K6.out (hne.out 6 (by decide) e), fun e => K7.out (hne.out 7 (by decide) e), fun e => K8.out (hne.out 8 (by decide) e), fun _ => ⟨_, rfl, Has.new _ _ _⟩, hB.alloc hB.size _⟩
        case hl =>
          rintro listed aq wx ⟨hz, v29, v30, v31, v32, v33, v34, v35, v36, v37, v38, rfl, hII⟩ hall
          have K0 := Lib.hid hII.1
          have K1 := Lib.hid hII.2.1
          have K2 := Lib.hid hII.2.2.1
          have K3 := Lib.hid hII.2.2.2.1
          have K4 := Lib.hid hII.2.2.2.2.1
          have K5 := Lib.hid hII.2.2.2.2.2.1
          have K6 := Lib.hid hII.2.2.2.2.2.2.1
          have K7 := Lib.hid hII.2.2.2.2.2.2.2.1
          have K8 := Lib.hid hII.2.2.2.2.2.2.2.2.1
          have K9 := Lib.hid hII.2.2.2.2.2.2.2.2.2.1
          have hB : Below wr.heap.size wr wx := hII.2.2.2.2.2.2.2.2.2.2
          have hNx := hNh.out.below hB
          have hx := hf.out.kept hNx.2.2.2.2
          have hy := hg.out.kept hNx.2.2.2.2
          have hFx : FacW wx wx.heap.size A1 n1 A2 n2 F := hF0.out.below hNx.2.2.2.2
          have hHx : FacW wx wx.heap.size B1 m1 B2 m2 H := hH0.out.below hNx.2.2.2.2
          clear hII
          obtain rfl := K0.out (hall 0 (by decide))
          obtain rfl := K1.out (hall 1 (by decide))
          obtain rfl := K2.out (hall 2 (by decide))
          obtain rfl := K3.out (hall 3 (by decide))
          obtain rfl := K4.out (hall 4 (by decide))
          obtain rfl := K5.out (hall 5 (by decide))
          obtain rfl := K6.out (hall 6 (by decide))
          obtain rfl := K7.out (hall 7 (by decide))
          obtain rfl := K8.out (hall 8 (by decide))
          obtain ⟨g9, rfl, hg9⟩ := K9.out (hall 9 (by decide))
          clear hall K0 K1 K2 K3 K4 K5 K6 K7 K8 K9
          have hO6 : wx.ownsRow W0.heap.size 3 1 (.slice E2 k e2) k (ints (facPre L g k)) := by have h1 := hNx.1; unfold IOwn at h1; rwa [hpl] at h1
          unfold wpSeq
          refine wpOp_step rfl (fun K0 hK0 => ?_)
          refine step_append_lies _ rfl (.tmp 30) (.tmp 38) 22 rfl W0.heap.size 3 i0 _ 1 8 Try.underlying22 hi0 hi1 hi2 hi3 rfl (by decide) (.slice E2 k e2) k (ints (facPre L g k)) (by simp [Act.eval]) hO6 ⟨g9, 0, none⟩ 1 1 [.int .i64 (y * z)] (by simp [Act.eval]) rfl (by exact World.news_of_block hg9) (by simp [Value.oneCell']) (by omega) (by unfold maxLen; omega) (by omega) hNx.2.2.2.2.size wx.heap.size rfl ?_
          intro gr cr2 w6 hown6 hgrow6 hat6 hlt6
          refine hK0 _ _ ?_
          clear hK0
          unfold wpSeq
          refine wpOp_step rfl (fun K1 hK1 => ?_)
          go_simp
          refine hK1 _ _ ?_
          clear hK1
          have hG6 := hNx.2.2.1.but (grown_but_ hgrow6) (fun e => iown_ne hNx.1 hNx.2.2.1 (by decide) _ e rfl)
          have hgc := hG6.cell
          have hgf := hG6.frozen
          unfold wpSeq
          refine wpOp_step rfl (fun K2 hK2 => ?_)
          go_simp
          refine hK2 _ _ ?_
          clear hK2
          unfold wpSeq
          have hP := Lib.hid (hNx.grow (x := y * z) hpl hG1 hdh.out hown6 hgrow6 hat6)
          rw [← hnx.out] at hP
          clear hgc hgf hG6 hO6 hNx hx hy hFx hHx hown6 hgrow6 hat6 hg9
          go_wp2_with fail
          go_roundg (Q - (k + 1))
          case measure => omega
          case rel => exact ⟨k + 1, _, by omega, rfl, by go_num, hP.out.1, hP.out.2⟩
      · obtain rfl : k = Q := by omega
        obtain ⟨h1, h2, h3, h4, h5⟩ := hNh.out
        rw [hall.out] at h1
        have hB9 := hB0h.out.trans (h5.mono hWW)
        have cR := h4.cell
        have fR := h4.frozen
        have hp1 := (h4.put 0 (.slice D (over L).length cd)).cell 0
        have hp2 := ((h4.put 0 (.slice D (over L).length cd)).put 1 (.slice E2 k e2)).cell 1
        have hV := Lib.hid (show FcV wr W0.heap.size (.slice D (over L).length cd) (.slice E2 k e2) (facBy_ L g) from ⟨h2, h1, hdh.out⟩)
        clear hp1 hp2
        have hp1 := (h4.put 0 (.slice D (over L).length cd)).cell 0
        have hp2 := ((h4.put 0 (.slice D (over L).length cd)).put 1 (.slice E2 k e2)).cell 1
        go_wp2_with fail
        refine (cP.out _).mono ?_
        rintro e w' ⟨rfl, rfl⟩
        go_wp2_with fail
        refine bodyPost_ret (v := .agg #[.slice D (over L).length cd, .slice E2 k e2]) (by simp [results, Try.results72, go_sem, hp1, hp2]) rfl ⟨_, _, rfl, (hV.out.le hWW).put2 h4 _ _, ?_⟩
        exact (hB9.setCell (p := ⟨W0.heap.size, 0, none⟩) hWW _).setCell (p := ⟨W0.heap.size, 1, none⟩) hWW _
end Go.Proofs.Ytaipdkfbkcknkaa
