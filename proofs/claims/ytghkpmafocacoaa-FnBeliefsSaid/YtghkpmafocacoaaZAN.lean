/- Parts of the proof: Gp. -/
import Derived.Test.YtghkpmafocacoaaZAM
import Derived.Test.YtghkpmafocacoaaZAC
namespace Go.Proofs.Ytghkpmafocacoaa
set_option maxRecDepth 100000
set_option linter.unusedVariables false
open Go.RowKit
theorem owns_chgD {w w' : World} {base size n R : Nat} {e : TypeId} {v : Value} {xs : List Value} (h : w.ownsRow base e size v n xs) (hc : Chg w w' R) (hR : R < base) : w'.ownsRow base e size v n xs :=
  owns_but h (KeptBut.of_grown hc (S := fun i => i = R) (fun k e => by injection e with e; exact e.symm)) (fun k hk e => by
    have := (World.ownsRow.lt h k hk).1
    omega)
theorem set_self_getD {listed : Array Bool} {i : Nat} (h : i < listed.size) : (listed.setIfInBounds i true).getD i false = true := by
  rw [Array.getD_eq_getD_getElem?, Array.getElem?_setIfInBounds_self_of_lt h]
  rfl
theorem set_falseD {listed : Array Bool} {i k : Nat} (q : (listed.setIfInBounds i true).getD k false = false) : listed.getD k false = false := by
  cases h : listed.getD k false
  · rfl
  · rw [getD_set_true h] at q
    cases q
/-- A factor in a variable, while a source of numbers goes along. -/
def FacD (w : World) (R : Nat) (wr : World) (G : Nat) (v1 v2 : Value) (vs ds : List Int) : Prop :=
  IOwn wr w.heap.size v2 ds ∧ IOwn wr w.heap.size v1 vs ∧ Has wr G 56 #[v1, v2] ∧ Has wr w.heap.size 56 #[.slice none 0 0, .slice none 0 0] ∧ Chg w wr R
theorem FacD.chg {w wr wx : World} {R G : Nat} {v1 v2 : Value} {vs ds : List Int} (h : FacD w R wr G v1 v2 vs ds) (hc : Chg wr wx R) (hR : R < w.heap.size) (hG : w.heap.size ≤ G) : FacD w R wx G v1 v2 vs ds :=
  ⟨owns_chgD h.1 hc hR, owns_chgD h.2.1 hc hR, h.2.2.1.chg hc (by omega), h.2.2.2.1.chg hc (by omega), h.2.2.2.2.trans hc⟩
theorem FacD.alloc {w wr : World} {R G : Nat} {v1 v2 : Value} {vs ds : List Int} (h : FacD w R wr G v1 v2 vs ds) (o : Obj) : FacD w R (wr.alloc o) G v1 v2 vs ds :=
  ⟨h.1.alloc o, h.2.1.alloc o, h.2.2.1.alloc o, h.2.2.2.1.alloc o, h.2.2.2.2.alloc o⟩
theorem FacD.grow {w wx w6 : World} {R G gr cr n : Nat} {v1 v2 : Value} {vs ds : List Int} {x : Int} (h : FacD w R wx G v1 v2 vs ds) (hl : ds.length = n) (hG : w.heap.size < G) (hR : R < w.heap.size) (hd : ∀ b, v1.ownBlock = some b → v2.ownBlock ≠ some b)
    (hown : w6.ownsRow w.heap.size 3 1 (.slice (some ⟨gr, 0, none⟩) (n + 1) cr) (n + 1) (ints ds ++ [.int .i64 x])) (hgrow : wx.grownBy w6 v2.ownBlock) (hat : v2.ownBlock = some gr ∨ gr = wx.heap.size) :
    FacD w R (w6.setCell ⟨G, 1, none⟩ (.slice (some ⟨gr, 0, none⟩) (n + 1) cr)) G v1 (.slice (some ⟨gr, 0, none⟩) (n + 1) cr) vs (ds ++ [x]) ∧ (∀ b, v1.ownBlock = some b → (Value.slice (some ⟨gr, 0, none⟩) (n + 1) cr).ownBlock ≠ some b) := by
  subst hl
  obtain ⟨h1, h2, h3, h4, h5⟩ := h
  have hA : IOwn w6 w.heap.size (.slice (some ⟨gr, 0, none⟩) (ds.length + 1) cr) (ds ++ [x]) := by
    unfold IOwn
    rw [List.length_append, ints_append]
    exact hown
  have hK := grown_but_ hgrow
  have k2 := h2.but hK (fun k e1 e2 => hd k e1 e2)
  have k3 := h3.but hK (fun e => iown_ne h1 h3 (by decide) G e rfl)
  have k4 := h4.but hK (fun e => iown_ne h1 h4 (by decide) _ e rfl)
  have hp : KeptBut w6 (w6.setCell ⟨G, 1, none⟩ (.slice (some ⟨gr, 0, none⟩) (ds.length + 1) cr)) (fun i => i = G) := (KeptBut.refl w6 (fun i => i = G)).put (p := ⟨G, 1, none⟩) (fun _ => rfl) _
  have hC := h5.grown hgrow (fun k hk => (World.ownsRow.lt h1 k hk).1)
  refine ⟨⟨hA.but hp (fun k e1 e2 => iown_ne hA k3 (by decide) k e1 e2), k2.but hp (fun k e1 e2 => iown_ne k2 k3 (by decide) k e1 e2), k3.put 1 _, k4.far (p := ⟨G, 1, none⟩) (by show w.heap.size ≠ G; omega) _, hC.new (q := ⟨G, 1, none⟩) (Nat.le_of_lt hG) _⟩, ?_⟩
  intro b hb e
  have e1 : gr = b := by simpa [Value.ownBlock] using e
  subst e1
  rcases hat with hat | hat
  · exact hd _ hb hat
  · obtain ⟨c1, g1⟩ := owns_has h2 hb
    have := g1.lt
    omega
/-- The same, with its variables. -/
def DrFo (w : World) (L : Int) (B R : Nat) (A : Option Addr) (n c q a b : Nat) (e : Ending) (w' : World) : Prop :=
  ∃ (v1 v2 : Value) (F : Fac) (p : Nat), e = .returned (.agg #[v1, v2]) ∧ F.vs = over L ∧ FcV w' w.heap.size v1 v2 F ∧ F.vs.length ≤ a ∧ F.ns.length ≤ b ∧ 1 ≤ F.ns.length ∧ p ≤ q ∧ Rdr w' B R A n c p ∧ Chg w w' R
set_option maxHeartbeats 4000000 in
theorem l8Draw_full (R : Nat) (A : Option Addr) (n c p B : Nat) (L : Int) (w : World) (h : Rdr w B R A n c p) (hp : p ≤ 700000) (hn : n ≤ 2000) (hB : B ≤ w.heap.size) (hL : 0 ≤ L ∧ L ≤ 15) :
    Calls Try.prog 137 #[.pointer (some ⟨R, 0, none⟩), .int .i64 L] w (DrFo w L B R A n c (p + 81) 4 81) := by
  have cO := Lib.hid (fun wx => l8Over_any L wx hL)
  have hRl := h.lt
  have hLh := Lib.hid hL
  have hR0 := Lib.hid (h.alloc hB (.cells #[.slice none 0 0, .slice none 0 0] 56))
  have hr0 := Lib.hid (Has.new w 56 #[.slice none 0 0, .slice none 0 0])
  have hC0 := Lib.hid ((Chg.refl w R).alloc (.cells #[.slice none 0 0, .slice none 0 0] 56))
  have hB0 : Below w.heap.size w (w.alloc (.cells #[.slice none 0 0, .slice none 0 0] 56)) := (Below.refl _ _).alloc (Nat.le_refl _) _
  have hz0 : (w.alloc (.cells #[.slice none 0 0, .slice none 0 0] 56)).heap.size = w.heap.size + 1 := by simp
  obtain ⟨i0, hi0, hi1, hi2, hi3⟩ := info_parts info_int
  have hlb := over_len hL
  have hpb := pow_four hlb
  have cP := Lib.hid (fun wx => l1Power_four (over L).length hlb wx)
  generalize hMM : 3 ^ (over L).length = Q at *
  have hQ1 : 1 ≤ Q := by rw [← hMM]; exact Nat.pow_pos (by decide)
  clear h hL
  go_enter Try.func137, Try.ntmps137
  go_wp2_with fail
  generalize w.alloc (.cells #[.slice none 0 0, .slice none 0 0] 56) = W0 at hR0 hr0 hC0 hB0 hz0 ⊢
  refine (cO.out _).mono ?_
  rintro e w1 ⟨u1, rfl, hD, hb1⟩
  obtain ⟨D, cd, rfl, _, _⟩ := hD.form
  have hz1 := hb1.size
  have hR1 : Rdr w1 B R A n c p := ⟨hR0.out.1.kept hb1, hR0.out.2.1, hR0.out.2.2.keep (hb1.mono (by omega))⟩
  have hC1 : Chg w w1 R := hC0.out.trans ⟨hb1.os, hb1.tape, hb1.output, hb1.size, fun i hi _ => hb1.block i hi⟩
  have hD1 : IOwn w1 w.heap.size (.slice D (over L).length cd) (over L) := owns_le hD (by omega)
  have hr1 := hr0.out.kept hb1
  have hN0 := Lib.hid (show FacD w R (w1.alloc (.cells #[.slice D (over L).length cd, .slice none 0 0] 56)) w1.heap.size (.slice D (over L).length cd) (.slice none 0 0) (over L) [] from ⟨IOwn.nil _ _, hD1.alloc _, Has.new w1 _ _, hr1.alloc _, hC1.alloc _⟩)
  have hRd0 := Lib.hid (hR1.alloc (by omega) (.cells #[.slice D (over L).length cd, .slice none 0 0] 56))
  have hd0 := Lib.hid (show ∀ b, (Value.slice D (over L).length cd).ownBlock = some b → (Value.slice none 0 0).ownBlock ≠ some b from fun b _ e => by cases e)
  have hG1 : w.heap.size < w1.heap.size := by omega
  clear hD hb1 hR1 hC1 hD1 hr1 hR0 hr0 hC0 hB0
  go_wp2_with fail
  generalize w1.alloc (.cells #[.slice D (over L).length cd, .slice none 0 0] 56) = W2 at hN0 hRd0 ⊢
  generalize w1.heap.size = G at hN0 hG1 hz1 ⊢
  go_loopg [6] Q (fun gn v wr => ∃ (k : Nat) (v2 : Value) (ds : List Int) (q : Nat), k ≤ Q ∧ gn = Q - k ∧ v = .int .i64 k ∧ ds.length = k ∧ q ≤ p + k ∧ Rdr wr B R A n c q ∧ FacD w R wr G (.slice D (over L).length cd) v2 (over L) ds ∧ (∀ b, (Value.slice D (over L).length cd).ownBlock = some b → v2.ownBlock ≠ some b))
  case atStart => exact ⟨0, _, [], p, Nat.zero_le _, rfl, rfl, rfl, Nat.le_refl _, hRd0.out, hN0.out, hd0.out⟩
  case round =>
    obtain ⟨k, v2, ds, q, hk, hgn, rfl, hpl, hq, hRd, hN, hd⟩ := hrel
    have hgk : gk = Q - k := hgn
    obtain ⟨E2, e2, rfl, hE1, hE2⟩ := hN.1.form
    rw [hpl] at hN hd hE1
    have hNh := Lib.hid hN
    have hdh := Lib.hid hd
    have hRdh := Lib.hid hRd
    have cA := hN.2.2.1.cell
    have hzz := hN.2.2.2.2.size
    clear hgn hN hd hRd
    by_cases hlt : k < Q
    · have hk0 : (0 : Int) ≤ (k : Int) := by omega
      have hk1 : (k : Int) < (Q : Int) := by omega
      have hB9 : B ≤ wr.heap.size := by omega
      go_wp2_with fail
      refine (cP.out _).mono ?_
      rintro e w' ⟨rfl, rfl⟩
      go_wp2_with fail
      refine wp_region_any (by kernel_rfl) ?_
      change wpAny _ _ _ _ _ _ _ (World.drew _)
      refine wpAny_tail (n := 5) (c := 2) (I := fun listed aq wx => listed.size = 8 ∧ ∃ v18 v19 v20 v21 v22 : Value, aq = { tmps := #[.pointer (some ⟨R, 0, none⟩), .int .i64 L, undef, undef, .pointer (some ⟨w.heap.size, 0, none⟩), .pointer (some ⟨G, 0, none⟩), .int .i64 ↑k, .int .i64 L, .slice D (over L).length cd, .agg #[.slice D (over L).length cd, .slice none 0 0], .int .i64 ↑k, .pointer (some ⟨G, 0, none⟩), .slice D (over L).length cd, .int .i64 ↑(over L).length, .int .i64 ↑Q, .bool true, u16, u17, v18, v19, v20, v21, v22, u23, u24, undef], defers := [] } ∧ (listed.getD 0 false = true → v18 = .pointer (some ⟨G, 1, none⟩)) ∧ (listed.getD 1 false = true → v19 = .slice E2 k e2) ∧ (listed.getD 2 false = true → v20 = .pointer (some ⟨R, 0, none⟩)) ∧ (listed.getD 3 false = true → (∃ x : Int, v21 = .int .i64 x ∧ Rdr wx B R A n c (q + 1))) ∧ (listed.getD 4 false = true → (listed.getD 3 false = true ∧ ∃ (g9 : Nat) (x9 : Int), v22 = .slice (some ⟨g9, 0, none⟩) 1 1 ∧ Has wx g9 3 #[.int .i64 x9])) ∧ ((listed.getD 3 false = false → Rdr wx B R A n c q) ∧ Chg wr wx R)) rfl (by kernel_rfl) (by kernel_rfl) (by kernel_rfl) ?hs ?hl _ _ _ ?st rfl (by decide) _ (by decide)
      case st =>
        refine ⟨rfl, u18, u19, u20, u21, u22, rfl, ?_, ?_, ?_, ?_, ?_, ⟨fun _ => ⟨hRdh.out.1, hRdh.out.2.1, hRdh.out.2.2⟩, (Chg.refl wr R).drewN 1⟩⟩ <;> (intro e; exact absurd e (by decide))
      case hs =>
        rintro listed aq wx ⟨hz, v18, v19, v20, v21, v22, rfl, hII⟩ i hin hi
        obtain ⟨h0, o, ho, hd⟩ := mem_ready.1 hi
        have K0 := Lib.hid hII.1
        have K1 := Lib.hid hII.2.1
        have K2 := Lib.hid hII.2.2.1
        have K3 := Lib.hid hII.2.2.2.1
        have K4 := Lib.hid hII.2.2.2.2.1
        have hB : ((listed.getD 3 false = false → Rdr wx B R A n c q) ∧ Chg wr wx R) := hII.2.2.2.2.2
        have hne := Lib.hid (fun k (hk : i ≠ k) => @listed_ne listed i k hk)
        have h0f : listed.getD i false = false := by rw [Array.getD_eq_getD_getElem?, getD_false h0]; rfl
        clear hII hi h0
        rcases (by omega : i = 0 ∨ i = 1 ∨ i = 2 ∨ i = 3 ∨ i = 4) with rfl | rfl | rfl | rfl | rfl
        · cases ho
          refine wpOp_step rfl (fun K hK => ?_)
          go_simp
          refine hK _ _ ⟨by simpa using hz, .pointer (some ⟨G, 1, none⟩), v19, v20, v21, v22, rfl, ?_⟩
          exact ⟨fun _ => rfl, fun e => K1.out (hne.out 1 (by decide) e), fun e => K2.out (hne.out 2 (by decide) e), fun e => K3.out (hne.out 3 (by decide) e), fun e => (by obtain ⟨y0, y1⟩ := K4.out (hne.out 4 (by decide) e); exact ⟨getD_set_true y0, y1⟩), ⟨fun qq => hB.1 (set_falseD qq), hB.2⟩⟩
        · cases ho
          have d0 := hd ⟨0, .data⟩ (by simp) rfl
          obtain rfl := K0.out d0
          have hNx := hNh.out.chg hB.2 hRl (Nat.le_of_lt hG1)
          have hgc := hNx.2.2.1.cell
          refine wpOp_step rfl (fun K hK => ?_)
          go_simp
          refine hK _ _ ⟨by simpa using hz, .pointer (some ⟨G, 1, none⟩), .slice E2 k e2, v20, v21, v22, rfl, ?_⟩
          exact ⟨fun e => K0.out (hne.out 0 (by decide) e), fun _ => rfl, fun e => K2.out (hne.out 2 (by decide) e), fun e => K3.out (hne.out 3 (by decide) e), fun e => (by obtain ⟨y0, y1⟩ := K4.out (hne.out 4 (by decide) e); exact ⟨getD_set_true y0, y1⟩), ⟨fun qq => hB.1 (set_falseD qq), hB.2⟩⟩
        · cases ho
          refine wpOp_step rfl (fun K hK => ?_)
          go_simp
          refine hK _ _ ⟨by simpa using hz, v18, v19, .pointer (some ⟨R, 0, none⟩), v21, v22, rfl, ?_⟩
          exact ⟨fun e => K0.out (hne.out 0 (by decide) e), fun e => K1.out (hne.out 1 (by decide) e), fun _ => rfl, fun e => K3.out (hne.out 3 (by decide) e), fun e => (by obtain ⟨y0, y1⟩ := K4.out (hne.out 4 (by decide) e); exact ⟨getD_set_true y0, y1⟩), ⟨fun qq => hB.1 (set_falseD qq), hB.2⟩⟩
        · cases ho
          have d2 := hd ⟨2, .data⟩ (by simp) rfl
          obtain rfl := K2.out d2
          refine wpOp_step rfl (fun K hK => ?_)
          go_simp
          go_at_call 87
          refine (pick_any R A n c q B 5 _ (hB.1 h0f) (by omega) hn (by decide)).mono ?_
          rintro e w3 ⟨x, rfl, hx0, hx5, hRx, hcx⟩
          refine hK _ _ ⟨by simpa using hz, v18, v19, .pointer (some ⟨R, 0, none⟩), .int .i64 x, v22, rfl, ?_⟩
          exact ⟨fun e => K0.out (hne.out 0 (by decide) e), fun e => K1.out (hne.out 1 (by decide) e), fun e => K2.out (hne.out 2 (by decide) e), fun _ => ⟨x, rfl, hRx⟩, fun e => absurd (K4.out (hne.out 4 (by decide) e)).1 (by rw [h0f]; decide), ⟨fun qq => absurd qq (by rw [set_self_getD (by omega)]; decide), hB.2.trans hcx⟩⟩
        · cases ho
          have d3 := hd ⟨3, .data⟩ (by simp) rfl
          obtain ⟨x, rfl, hRx⟩ := K3.out d3
          refine wpOp_step rfl (fun K hK => ?_)
          go_simp
          refine hK _ _ ⟨by simpa using hz, v18, v19, v20, .int .i64 x, .slice (some ⟨wx.heap.size, 0, none⟩) 1 1, rfl, ?_⟩
          exact ⟨fun e => K0.out (hne.out 0 (by decide) e), fun e => K1.out (hne.out 1 (by decide) e), fun e => K2.out (hne.out 2 (by decide) e), fun e => (by obtain ⟨y1, y2, y3⟩ := K3.out (hne.out 3 (by decide) e); exact ⟨y1, y2, y3.alloc (by have := hB.2.size; omega) _⟩), fun _ => ⟨getD_set_true d3, _, x, rfl, Has.new _ _ _⟩, ⟨fun qq => absurd (set_falseD qq) (by rw [d3]; decide), hB.2.alloc _⟩⟩
      case hl =>
        rintro listed aq wx ⟨hz, v18, v19, v20, v21, v22, rfl, hII⟩ hall
        have K0 := Lib.hid hII.1
        have K1 := Lib.hid hII.2.1
        have K2 := Lib.hid hII.2.2.1
        have K3 := Lib.hid hII.2.2.2.1
        have K4 := Lib.hid hII.2.2.2.2.1
        have hB : ((listed.getD 3 false = false → Rdr wx B R A n c q) ∧ Chg wr wx R) := hII.2.2.2.2.2
        clear hII
        obtain rfl := K0.out (hall 0 (by decide))
        obtain rfl := K1.out (hall 1 (by decide))
        obtain rfl := K2.out (hall 2 (by decide))
        obtain ⟨x, rfl, hRx⟩ := K3.out (hall 3 (by decide))
        obtain ⟨_, g9, x9, rfl, hg9⟩ := K4.out (hall 4 (by decide))
        clear hall K0 K1 K2 K3 K4
        have hNx := hNh.out.chg hB.2 hRl (Nat.le_of_lt hG1)
        have hO6 : wx.ownsRow w.heap.size 3 1 (.slice E2 k e2) k (ints ds) := by have h1 := hNx.1; unfold IOwn at h1; rwa [hpl] at h1
        unfold wpSeq
        refine wpOp_step rfl (fun K0 hK0 => ?_)
        refine step_append_lies _ rfl (.tmp 19) (.tmp 22) 31 rfl w.heap.size 3 i0 _ 1 8 Try.underlying31 hi0 hi1 hi2 hi3 rfl (by decide) (.slice E2 k e2) k (ints ds) (by simp [Act.eval]) hO6 ⟨g9, 0, none⟩ 1 1 [.int .i64 x9] (by simp [Act.eval]) rfl (by exact World.news_of_block hg9) (by simp [Value.oneCell']) (by omega) (by unfold maxLen; omega) (by omega) hNx.2.2.2.2.size wx.heap.size rfl ?_
        intro gr cr2 w6 hown6 hgrow6 hat6 hlt6
        refine hK0 _ _ ?_
        clear hK0
        unfold wpSeq
        refine wpOp_step rfl (fun K1 hK1 => ?_)
        go_simp
        refine hK1 _ _ ?_
        clear hK1
        have hG6 := hNx.2.2.1.but (grown_but_ hgrow6) (fun e => iown_ne hNx.1 hNx.2.2.1 (by decide) _ e rfl)
        have hgc := hG6.cell
        have hgf := hG6.frozen
        unfold wpSeq
        refine wpOp_step rfl (fun K2 hK2 => ?_)
        go_simp
        refine hK2 _ _ ?_
        clear hK2
        unfold wpSeq
        have hP := Lib.hid (hNx.grow (x := x9) hpl hG1 hRl hdh.out hown6 hgrow6 hat6)
        have hR6 := Lib.hid ((hRx.grown hgrow6 (fun k hk => ⟨by have := (World.ownsRow.lt hO6 k hk).1; omega, by have := (World.ownsRow.lt hO6 k hk).1; omega⟩) (by have := hB.2.size; omega)).new (q := ⟨G, 1, none⟩) (by show B ≤ G; omega) (by show R ≠ G; omega) (.slice (some ⟨gr, 0, none⟩) (k + 1) cr2))
        clear hgc hgf hG6 hO6 hNx hown6 hgrow6 hat6 hg9 hRx hB cA
        go_wp2_with fail
        go_roundg (Q - (k + 1))
        case measure => omega
        case rel => exact ⟨k + 1, _, ds ++ [x9], q + 1, by omega, rfl, by go_num, by rw [List.length_append, hpl]; rfl, by omega, hR6.out, hP.out.1, hP.out.2⟩
    · obtain rfl : k = Q := by omega
      obtain ⟨h1, h2, h3, h4, h5⟩ := hNh.out
      have cR := h4.cell
      have fR := h4.frozen
      have hp1 := (h4.put 0 (.slice D (over L).length cd)).cell 0
      have hp2 := ((h4.put 0 (.slice D (over L).length cd)).put 1 (.slice E2 k e2)).cell 1
      have hV := Lib.hid (show FcV wr w.heap.size (.slice D (over L).length cd) (.slice E2 k e2) ⟨over L, ds⟩ from ⟨h2, h1, hdh.out⟩)
      have hR9 := Lib.hid ((hRdh.out.new (q := ⟨w.heap.size, 0, none⟩) hB (by show R ≠ w.heap.size; omega) (.slice D (over L).length cd)).new (q := ⟨w.heap.size, 1, none⟩) hB (by show R ≠ w.heap.size; omega) (.slice E2 k e2))
      have hC9 := Lib.hid ((h5.new (q := ⟨w.heap.size, 0, none⟩) (Nat.le_refl _) (.slice D (over L).length cd)).new (q := ⟨w.heap.size, 1, none⟩) (Nat.le_refl _) (.slice E2 k e2))
      go_wp2_with fail
      refine (cP.out _).mono ?_
      rintro e w' ⟨rfl, rfl⟩
      go_wp2_with fail
      refine bodyPost_ret (v := .agg #[.slice D (over L).length cd, .slice E2 k e2]) (by simp [results, Try.results137, go_sem, hp1, hp2]) rfl ⟨_, _, ⟨over L, ds⟩, q, rfl, rfl, hV.out.put2 h4 _ _, by show (over L).length ≤ 4; omega, by show ds.length ≤ 81; omega, by show 1 ≤ ds.length; omega, by omega, hR9.out, hC9.out⟩
end Go.Proofs.Ytghkpmafocacoaa
