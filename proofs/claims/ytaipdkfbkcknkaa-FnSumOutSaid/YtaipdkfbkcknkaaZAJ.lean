/- Parts of the proof: Gq. -/
import Derived.Test.YtaipdkfbkcknkaaZAI
namespace Go.Proofs.Ytaipdkfbkcknkaa
set_option maxRecDepth 100000
set_option linter.unusedVariables false
open Go.RowKit
theorem FacD.grow1 {w wx w6 : World} {R G gr cr n : Nat} {v1 v2 : Value} {vs ds : List Int} {x : Int} (h : FacD w R wx G v1 v2 vs ds) (hl : vs.length = n) (hG : w.heap.size < G) (hR : R < w.heap.size) (hd : ∀ b, v1.ownBlock = some b → v2.ownBlock ≠ some b)
    (hown : w6.ownsRow w.heap.size 3 1 (.slice (some ⟨gr, 0, none⟩) (n + 1) cr) (n + 1) (ints vs ++ [.int .i64 x])) (hgrow : wx.grownBy w6 v1.ownBlock) (hat : v1.ownBlock = some gr ∨ gr = wx.heap.size) :
    FacD w R (w6.setCell ⟨G, 0, none⟩ (.slice (some ⟨gr, 0, none⟩) (n + 1) cr)) G (.slice (some ⟨gr, 0, none⟩) (n + 1) cr) v2 (vs ++ [x]) ds ∧ (∀ b, (Value.slice (some ⟨gr, 0, none⟩) (n + 1) cr).ownBlock = some b → v2.ownBlock ≠ some b) := by
  subst hl
  obtain ⟨h1, h2, h3, h4, h5⟩ := h
  have hA : IOwn w6 w.heap.size (.slice (some ⟨gr, 0, none⟩) (vs.length + 1) cr) (vs ++ [x]) := by
    unfold IOwn
    rw [List.length_append, ints_append]
    exact hown
  have hK := grown_but_ hgrow
  have k2 := h1.but hK (fun k e1 e2 => hd k e2 e1)
  have k3 := h3.but hK (fun e => iown_ne h2 h3 (by decide) G e rfl)
  have k4 := h4.but hK (fun e => iown_ne h2 h4 (by decide) _ e rfl)
  have hp : KeptBut w6 (w6.setCell ⟨G, 0, none⟩ (.slice (some ⟨gr, 0, none⟩) (vs.length + 1) cr)) (fun i => i = G) := (KeptBut.refl w6 (fun i => i = G)).put (p := ⟨G, 0, none⟩) (fun _ => rfl) _
  have hC := h5.grown hgrow (fun k hk => (World.ownsRow.lt h2 k hk).1)
  refine ⟨⟨k2.but hp (fun k e1 e2 => iown_ne k2 k3 (by decide) k e1 e2), hA.but hp (fun k e1 e2 => iown_ne hA k3 (by decide) k e1 e2), k3.put 0 _, k4.far (p := ⟨G, 0, none⟩) (by show w.heap.size ≠ G; omega) _, hC.new (q := ⟨G, 0, none⟩) (Nat.le_of_lt hG) _⟩, ?_⟩
  intro b hb e
  have e1 : gr = b := by simpa [Value.ownBlock] using hb
  subst e1
  rcases hat with hat | hat
  · exact hd _ hat e
  · obtain ⟨c1, g1⟩ := owns_has h1 e
    have := g1.lt
    omega
theorem FacD.put {w wr : World} {R G g2 n c2 : Nat} {v1 : Value} {vs ds : List Int} (h : FacD w R wr G v1 (.slice (some ⟨g2, 0, none⟩) n c2) vs ds) (hd : ∀ b, v1.ownBlock = some b → (Value.slice (some ⟨g2, 0, none⟩) n c2).ownBlock ≠ some b) (hl : ds.length = n ∧ 0 < n) (hg : w.heap.size ≤ g2) (x : Int) :
    FacD w R (wr.setCell ⟨g2, 0, none⟩ (.int .i64 x)) G v1 (.slice (some ⟨g2, 0, none⟩) n c2) vs (ds.set 0 x) := by
  obtain ⟨h1, h2, h3, h4, h5⟩ := h
  have hk : KeptBut wr (wr.setCell ⟨g2, 0, none⟩ (.int .i64 x)) (fun i => i = g2) := (KeptBut.refl wr (fun i => i = g2)).put (p := ⟨g2, 0, none⟩) (fun _ => rfl) _
  refine ⟨?_, h2.but hk (fun k e1 e2 => hd k e1 (by simp [Value.ownBlock, e2])), h3.but hk (fun e => ?_), h4.but hk (fun e => ?_), h5.new (q := ⟨g2, 0, none⟩) hg _⟩
  · unfold IOwn at h1 ⊢
    rw [List.length_set, hl.1] at *
    exact owns_set h1 hl.2
  · exact iown_ne h1 h3 (by decide) g2 (by simp [Value.ownBlock]) e.symm
  · exact iown_ne h1 h4 (by decide) g2 (by simp [Value.ownBlock]) e.symm
theorem FacD.cell2 {w wr : World} {R G g2 n c2 : Nat} {v1 : Value} {vs ds : List Int} (h : FacD w R wr G v1 (.slice (some ⟨g2, 0, none⟩) n c2) vs ds) (hl : ds.length = n ∧ 0 < n) : wr.cell? ⟨g2, 0, none⟩ = some (.int .i64 (ds.getD 0 0)) ∧ wr.frozen? ⟨g2, 0, none⟩ = false := by
  have h1 := h.1
  unfold IOwn at h1
  rw [hl.1] at h1
  obtain ⟨b, cur, e, _, hh, _, _, _, hc⟩ := owns_open h1 hl.2
  injection e with e
  injection e with e _ _
  subst e
  refine ⟨?_, hh.frozen 0⟩
  rw [hc 0 (by omega)]
  have hd : ds[0]? = some (ds.getD 0 0) := by
    rw [List.getD_eq_getElem?_getD, List.getElem?_eq_getElem (by omega)]
    rfl
  exact ints_get hd
set_option maxHeartbeats 4000000 in
theorem l8Any_any (R : Nat) (A : Option Addr) (n c p B : Nat) (w : World) (h : Rdr w B R A n c p) (hp : p ≤ 600000) (hn : n ≤ 2000) (hB : B ≤ w.heap.size) :
    Calls Try.prog 89 #[.pointer (some ⟨R, 0, none⟩)] w (DrF w B R A n c (p + 84) 5 82) := by
  have hRl := h.lt
  have hr0 := Lib.hid (h.alloc hB (.cells #[.slice none 0 0, .slice none 0 0] 36))
  have hq0 := Lib.hid (Has.new w 36 #[.slice none 0 0, .slice none 0 0])
  have hC0 := Lib.hid ((Chg.refl w R).alloc (.cells #[.slice none 0 0, .slice none 0 0] 36))
  have hz0 : (w.alloc (.cells #[.slice none 0 0, .slice none 0 0] 36)).heap.size = w.heap.size + 1 := by simp
  obtain ⟨i0, hi0, hi1, hi2, hi3⟩ := info_parts info_int
  clear h
  go_enter Try.func89, Try.ntmps89
  go_wp2_with fail
  generalize w.alloc (.cells #[.slice none 0 0, .slice none 0 0] 36) = W0 at hr0 hq0 hC0 hz0 ⊢
  refine (pick_any R A n c p B 15 _ hr0.out (by omega) hn (by decide)).mono ?_
  rintro e w1 ⟨x, rfl, hx0, hx15, hr1, hc1⟩
  have hz1 := hc1.size
  have hr1h := Lib.hid hr1
  have hC1 := Lib.hid (hC0.out.trans hc1)
  have hq1 := Lib.hid (hq0.out.chg hc1 (by omega))
  clear hr1 hc1
  go_wp2_with fail
  refine (l8Draw_any R A n c (p + 1) B x w1 hr1h.out (by omega) hn (by omega) ⟨hx0, by omega⟩).mono ?_
  rintro e w2 ⟨v1, v2, F, p2, rfl, hV, hl1, hl2, hl3, hp2, hr2, hc2⟩
  have hz2 := hc2.size
  obtain ⟨D1, e1, rfl, _, _⟩ := hV.1.form
  obtain ⟨D2, e2, rfl, _, _⟩ := hV.2.1.form
  have hC2 := hC1.out.trans hc2
  have hq2 := hq1.out.chg hc2 (by omega)
  have hD3 := Lib.hid (show FacD w R (w2.alloc (.cells #[.slice D1 F.vs.length e1, .slice D2 F.ns.length e2] 36)) w2.heap.size (.slice D1 F.vs.length e1) (.slice D2 F.ns.length e2) F.vs F.ns from ⟨(show IOwn w2 w.heap.size _ _ from owns_le hV.2.1 (by omega)).alloc _, (show IOwn w2 w.heap.size _ _ from owns_le hV.1 (by omega)).alloc _, Has.new w2 _ _, hq2.alloc _, hC2.alloc _⟩)
  have hr3 := Lib.hid (hr2.alloc (by omega) (.cells #[.slice D1 F.vs.length e1, .slice D2 F.ns.length e2] 36))
  have hd4 := Lib.hid hV.2.2
  have hG1 : w.heap.size < w2.heap.size := by omega
  clear hV hr2 hc2 hC2 hq2
  go_wp2_with fail
  generalize w2.alloc (.cells #[.slice D1 F.vs.length e1, .slice D2 F.ns.length e2] 36) = W3 at hD3 hr3 ⊢
  generalize w2.heap.size = G at hD3 hG1 hz2 ⊢
  refine (pick_any R A n c p2 B 64 _ hr3.out (by omega) hn (by decide)).mono ?_
  rintro e w4 ⟨y, rfl, hy0, hy64, hr4', hc4⟩
  have hr4 := Lib.hid hr4'
  have hD4 := Lib.hid (hD3.out.chg hc4 hRl (Nat.le_of_lt hG1))
  have hz4 : w.heap.size ≤ w4.heap.size := hD4.out.2.2.2.2.size
  clear hr4' hc4
  by_cases h0 : y = 0
  · subst h0
    have hal := (Chg.refl w4 R).alloc (.cells #[.int .i64 4] 3)
    have hDa := Lib.hid (hD4.out.alloc (.cells #[.int .i64 4] 3))
    have hra := Lib.hid (hr4.out.alloc (by omega) (.cells #[.int .i64 4] 3))
    have hO6 := Lib.hid (show (w4.alloc (.cells #[.int .i64 4] 3)).ownsRow w.heap.size 3 1 (.slice D1 F.vs.length e1) F.vs.length (ints F.vs) from hDa.out.2.1)
    have hnw := Lib.hid (new_one w4 (.int .i64 4) 3)
    have cA := hD4.out.2.2.1.cell
    have hsz6 := Lib.hid hDa.out.2.2.2.2.size
    go_wp2_with (at_builtin; refine wpList_append_lies _ rfl (.tmp 14) (.tmp 15) 22 rfl w.heap.size 3 i0 _ 1 8 Try.underlying22 hi0 hi1 hi2 hi3 rfl (by decide) (.slice D1 F.vs.length e1) F.vs.length (ints F.vs) rfl (by exact hO6.out) ⟨w4.heap.size, 0, none⟩ 1 1 [.int .i64 4] rfl rfl (by exact hnw.out) (by simp [Value.oneCell']) (by omega) (by unfold maxLen; omega) (by omega) (by exact hsz6.out) (w4.heap.size + 1) (by simp) ?_; intro gr cr2 w6 hown6 hgrow6 hat6 hlt6; have hG6 := hDa.out.2.2.1.but (grown_but_ hgrow6) (fun e => iown_ne hDa.out.2.1 hDa.out.2.2.1 (by decide) _ e rfl); have hgc := hG6.cell; have hgf := hG6.frozen; have hP := hDa.out.grow1 (x := 4) rfl hG1 hRl hd4.out hown6 hgrow6 (by simpa using hat6); have hr6 := (hra.out.grown hgrow6 (fun k hk => ⟨by have := (World.ownsRow.lt hO6.out k hk).1; omega, by have := (World.ownsRow.lt hO6.out k hk).1; omega⟩) (by simp; omega)).new (q := ⟨G, 0, none⟩) (by show B ≤ G; omega) (by show R ≠ G; omega) (.slice (some ⟨gr, 0, none⟩) (F.vs.length + 1) cr2); have hD5 := Lib.hid hP.1; have hd5 := Lib.hid hP.2; have hr5 := Lib.hid hr6; obtain ⟨h1, h2, h3, h4, h5⟩ := hD5.out; have cA5 := h3.cell; have cR := h4.cell; have fR := h4.frozen; have hp1 := (h4.put 0 (.slice (some ⟨gr, 0, none⟩) (F.vs.length + 1) cr2)).cell 0; have hp2 := ((h4.put 0 (.slice (some ⟨gr, 0, none⟩) (F.vs.length + 1) cr2)).put 1 (.slice D2 F.ns.length e2)).cell 1; have hV := Lib.hid (show FcV _ w.heap.size (.slice (some ⟨gr, 0, none⟩) (F.vs.length + 1) cr2) (.slice D2 F.ns.length e2) ⟨F.vs ++ [4], F.ns⟩ from ⟨h2, h1, hd5.out⟩); have hR9 := Lib.hid ((hr5.out.new (q := ⟨w.heap.size, 0, none⟩) hB (by show R ≠ w.heap.size; omega) (.slice (some ⟨gr, 0, none⟩) (F.vs.length + 1) cr2)).new (q := ⟨w.heap.size, 1, none⟩) hB (by show R ≠ w.heap.size; omega) (.slice D2 F.ns.length e2)); have hC9 := Lib.hid ((h5.new (q := ⟨w.heap.size, 0, none⟩) (Nat.le_refl _) (.slice (some ⟨gr, 0, none⟩) (F.vs.length + 1) cr2)).new (q := ⟨w.heap.size, 1, none⟩) (Nat.le_refl _) (.slice D2 F.ns.length e2)))
    refine bodyPost_ret (v := .agg #[.slice (some ⟨gr, 0, none⟩) (F.vs.length + 1) cr2, .slice D2 F.ns.length e2]) (by simp [results, Try.results89, go_sem, hp1, hp2]) rfl ⟨_, _, ⟨F.vs ++ [4], F.ns⟩, p2 + 1, rfl, hV.out.put2 h4 _ _, by show (F.vs ++ [4]).length ≤ 5; rw [List.length_append, List.length_singleton]; omega, by show F.ns.length ≤ 82; omega, by show 1 ≤ F.ns.length; omega, by omega, hR9.out, hC9.out⟩
  · by_cases h1 : y = 1
    · subst h1
      have hal := (Chg.refl w4 R).alloc (.cells #[.int .i64 1] 3)
      have hDa := Lib.hid (hD4.out.alloc (.cells #[.int .i64 1] 3))
      have hra := Lib.hid (hr4.out.alloc (by omega) (.cells #[.int .i64 1] 3))
      have hO6 := Lib.hid (show (w4.alloc (.cells #[.int .i64 1] 3)).ownsRow w.heap.size 3 1 (.slice D2 F.ns.length e2) F.ns.length (ints F.ns) from hDa.out.1)
      have hnw := Lib.hid (new_one w4 (.int .i64 1) 3)
      have cA := hD4.out.2.2.1.cell
      have hsz6 := Lib.hid hDa.out.2.2.2.2.size
      go_wp2_with (at_builtin; refine wpList_append_lies _ rfl (.tmp 21) (.tmp 22) 22 rfl w.heap.size 3 i0 _ 1 8 Try.underlying22 hi0 hi1 hi2 hi3 rfl (by decide) (.slice D2 F.ns.length e2) F.ns.length (ints F.ns) rfl (by exact hO6.out) ⟨w4.heap.size, 0, none⟩ 1 1 [.int .i64 1] rfl rfl (by exact hnw.out) (by simp [Value.oneCell']) (by omega) (by unfold maxLen; omega) (by omega) (by exact hsz6.out) (w4.heap.size + 1) (by simp) ?_; intro gr cr2 w6 hown6 hgrow6 hat6 hlt6; have hG6 := hDa.out.2.2.1.but (grown_but_ hgrow6) (fun e => iown_ne hDa.out.1 hDa.out.2.2.1 (by decide) _ e rfl); have hgc := hG6.cell; have hgf := hG6.frozen; have hP := hDa.out.grow (x := 1) rfl hG1 hRl hd4.out hown6 hgrow6 (by simpa using hat6); have hr6 := (hra.out.grown hgrow6 (fun k hk => ⟨by have := (World.ownsRow.lt hO6.out k hk).1; omega, by have := (World.ownsRow.lt hO6.out k hk).1; omega⟩) (by simp; omega)).new (q := ⟨G, 1, none⟩) (by show B ≤ G; omega) (by show R ≠ G; omega) (.slice (some ⟨gr, 0, none⟩) (F.ns.length + 1) cr2); have hD5 := Lib.hid hP.1; have hd5 := Lib.hid hP.2; have hr5 := Lib.hid hr6; obtain ⟨h1, h2, h3, h4, h5⟩ := hD5.out; have cA5 := h3.cell; have cR := h4.cell; have fR := h4.frozen; have hp1 := (h4.put 0 (.slice D1 F.vs.length e1)).cell 0; have hp2 := ((h4.put 0 (.slice D1 F.vs.length e1)).put 1 (.slice (some ⟨gr, 0, none⟩) (F.ns.length + 1) cr2)).cell 1; have hV := Lib.hid (show FcV _ w.heap.size (.slice D1 F.vs.length e1) (.slice (some ⟨gr, 0, none⟩) (F.ns.length + 1) cr2) ⟨F.vs, F.ns ++ [1]⟩ from ⟨h2, h1, hd5.out⟩); have hR9 := Lib.hid ((hr5.out.new (q := ⟨w.heap.size, 0, none⟩) hB (by show R ≠ w.heap.size; omega) (.slice D1 F.vs.length e1)).new (q := ⟨w.heap.size, 1, none⟩) hB (by show R ≠ w.heap.size; omega) (.slice (some ⟨gr, 0, none⟩) (F.ns.length + 1) cr2)); have hC9 := Lib.hid ((h5.new (q := ⟨w.heap.size, 0, none⟩) (Nat.le_refl _) (.slice D1 F.vs.length e1)).new (q := ⟨w.heap.size, 1, none⟩) (Nat.le_refl _) (.slice (some ⟨gr, 0, none⟩) (F.ns.length + 1) cr2)))
      refine bodyPost_ret (v := .agg #[.slice D1 F.vs.length e1, .slice (some ⟨gr, 0, none⟩) (F.ns.length + 1) cr2]) (by simp [results, Try.results89, go_sem, hp1, hp2]) rfl ⟨_, _, ⟨F.vs, F.ns ++ [1]⟩, p2 + 1, rfl, hV.out.put2 h4 _ _, by show F.vs.length ≤ 5; omega, by show (F.ns ++ [1]).length ≤ 82; rw [List.length_append, List.length_singleton]; omega, by show 1 ≤ (F.ns ++ [1]).length; rw [List.length_append]; omega, by omega, hR9.out, hC9.out⟩
    · have g0 : (y == 0) = false := by simpa using h0
      have g1 : (y == 1) = false := by simpa using h1
      have hIO := hD4.out.1
      unfold IOwn at hIO
      obtain ⟨g2, cur2, rfl, hg2, hx0', hx1', hx2', hx3', hx4'⟩ := owns_open hIO (by omega)
      clear hx0' hx1' hx2' hx3' hx4'
      have hns : F.ns.length = F.ns.length ∧ 0 < F.ns.length := ⟨rfl, by omega⟩
      clear hIO
      by_cases h2 : y = 2
      · subst h2
        have hc := hD4.out.cell2 hns
        obtain ⟨cc0, ff0⟩ := hc
        have cA := hD4.out.2.2.1.cell
        have hneG := iown_ne hD4.out.1 hD4.out.2.2.1 (by decide) g2 rfl
        have hneW := iown_ne hD4.out.1 hD4.out.2.2.2.1 (by decide) g2 rfl
        have hneG2 := Ne.symm hneG
        have hneW2 := Ne.symm hneW
        have cW := hD4.out.2.2.2.1.cell
        have fW := hD4.out.2.2.2.1.frozen
        have hD5 := Lib.hid (hD4.out.put hd4.out hns hg2 (-1))
        have hd5 := Lib.hid hd4.out
        have hr5 := Lib.hid (hr4.out.new (q := ⟨g2, 0, none⟩) (by show B ≤ g2; omega) (by show R ≠ g2; omega) (.int .i64 (-1)))
        have hk0 : (0 : Int) < (F.ns.length : Int) := by omega
        obtain ⟨h1, h2, h3, h4, h5⟩ := hD5.out
        have cA5 := h3.cell
        have cR := h4.cell
        have fR := h4.frozen
        have hp1 := (h4.put 0 (.slice D1 F.vs.length e1)).cell 0
        have hp2 := ((h4.put 0 (.slice D1 F.vs.length e1)).put 1 (.slice (some ⟨g2, 0, none⟩) F.ns.length e2)).cell 1
        have hV := Lib.hid (show FcV _ w.heap.size (.slice D1 F.vs.length e1) (.slice (some ⟨g2, 0, none⟩) F.ns.length e2) ⟨F.vs, F.ns.set 0 (-1)⟩ from ⟨h2, h1, hd5.out⟩)
        have hR9 := Lib.hid ((hr5.out.new (q := ⟨w.heap.size, 0, none⟩) hB (by show R ≠ w.heap.size; omega) (.slice D1 F.vs.length e1)).new (q := ⟨w.heap.size, 1, none⟩) hB (by show R ≠ w.heap.size; omega) (.slice (some ⟨g2, 0, none⟩) F.ns.length e2))
        have hC9 := Lib.hid ((h5.new (q := ⟨w.heap.size, 0, none⟩) (Nat.le_refl _) (.slice D1 F.vs.length e1)).new (q := ⟨w.heap.size, 1, none⟩) (Nat.le_refl _) (.slice (some ⟨g2, 0, none⟩) F.ns.length e2))
        go_wp2_with fail
        refine bodyPost_ret (v := .agg #[.slice D1 F.vs.length e1, .slice (some ⟨g2, 0, none⟩) F.ns.length e2]) (by simp [results, Try.results89, go_sem, hp1, hp2]) rfl ⟨_, _, ⟨F.vs, F.ns.set 0 (-1)⟩, p2 + 1, rfl, hV.out.put2 h4 _ _, by show F.vs.length ≤ 5; omega, by show (F.ns.set 0 (-1)).length ≤ 82; rw [List.length_set]; omega, by show 1 ≤ (F.ns.set 0 (-1)).length; rw [List.length_set]; omega, by omega, hR9.out, hC9.out⟩
      · have g2' : (y == 2) = false := by simpa using h2
        by_cases h3 : y = 3
        · subst h3
          have hc := hD4.out.cell2 hns
          obtain ⟨cc0, ff0⟩ := hc
          have cA := hD4.out.2.2.1.cell
          have hneG := iown_ne hD4.out.1 hD4.out.2.2.1 (by decide) g2 rfl
          have hneW := iown_ne hD4.out.1 hD4.out.2.2.2.1 (by decide) g2 rfl
          have hneG2 := Ne.symm hneG
          have hneW2 := Ne.symm hneW
          have cW := hD4.out.2.2.2.1.cell
          have fW := hD4.out.2.2.2.1.frozen
          have hD5 := Lib.hid (hD4.out.put hd4.out hns hg2 (1000000000))
          have hd5 := Lib.hid hd4.out
          have hr5 := Lib.hid (hr4.out.new (q := ⟨g2, 0, none⟩) (by show B ≤ g2; omega) (by show R ≠ g2; omega) (.int .i64 (1000000000)))
          have hk0 : (0 : Int) < (F.ns.length : Int) := by omega
          obtain ⟨h1, h2, h3, h4, h5⟩ := hD5.out
          have cA5 := h3.cell
          have cR := h4.cell
          have fR := h4.frozen
          have hp1 := (h4.put 0 (.slice D1 F.vs.length e1)).cell 0
          have hp2 := ((h4.put 0 (.slice D1 F.vs.length e1)).put 1 (.slice (some ⟨g2, 0, none⟩) F.ns.length e2)).cell 1
          have hV := Lib.hid (show FcV _ w.heap.size (.slice D1 F.vs.length e1) (.slice (some ⟨g2, 0, none⟩) F.ns.length e2) ⟨F.vs, F.ns.set 0 (1000000000)⟩ from ⟨h2, h1, hd5.out⟩)
          have hR9 := Lib.hid ((hr5.out.new (q := ⟨w.heap.size, 0, none⟩) hB (by show R ≠ w.heap.size; omega) (.slice D1 F.vs.length e1)).new (q := ⟨w.heap.size, 1, none⟩) hB (by show R ≠ w.heap.size; omega) (.slice (some ⟨g2, 0, none⟩) F.ns.length e2))
          have hC9 := Lib.hid ((h5.new (q := ⟨w.heap.size, 0, none⟩) (Nat.le_refl _) (.slice D1 F.vs.length e1)).new (q := ⟨w.heap.size, 1, none⟩) (Nat.le_refl _) (.slice (some ⟨g2, 0, none⟩) F.ns.length e2))
          go_wp2_with fail
          refine bodyPost_ret (v := .agg #[.slice D1 F.vs.length e1, .slice (some ⟨g2, 0, none⟩) F.ns.length e2]) (by simp [results, Try.results89, go_sem, hp1, hp2]) rfl ⟨_, _, ⟨F.vs, F.ns.set 0 (1000000000)⟩, p2 + 1, rfl, hV.out.put2 h4 _ _, by show F.vs.length ≤ 5; omega, by show (F.ns.set 0 (1000000000)).length ≤ 82; rw [List.length_set]; omega, by show 1 ≤ (F.ns.set 0 (1000000000)).length; rw [List.length_set]; omega, by omega, hR9.out, hC9.out⟩
        · have g3 : (y == 3) = false := by simpa using h3
          have hD5 := Lib.hid hD4.out
          have hd5 := Lib.hid hd4.out
          have hr5 := Lib.hid hr4.out
          obtain ⟨h1, h2, h3, h4, h5⟩ := hD5.out
          have cA := h3.cell
          have cR := h4.cell
          have fR := h4.frozen
          have hp1 := (h4.put 0 (.slice D1 F.vs.length e1)).cell 0
          have hp2 := ((h4.put 0 (.slice D1 F.vs.length e1)).put 1 (.slice (some ⟨g2, 0, none⟩) F.ns.length e2)).cell 1
          have hV := Lib.hid (show FcV _ w.heap.size (.slice D1 F.vs.length e1) (.slice (some ⟨g2, 0, none⟩) F.ns.length e2) ⟨F.vs, F.ns⟩ from ⟨h2, h1, hd5.out⟩)
          have hR9 := Lib.hid ((hr5.out.new (q := ⟨w.heap.size, 0, none⟩) hB (by show R ≠ w.heap.size; omega) (.slice D1 F.vs.length e1)).new (q := ⟨w.heap.size, 1, none⟩) hB (by show R ≠ w.heap.size; omega) (.slice (some ⟨g2, 0, none⟩) F.ns.length e2))
          have hC9 := Lib.hid ((h5.new (q := ⟨w.heap.size, 0, none⟩) (Nat.le_refl _) (.slice D1 F.vs.length e1)).new (q := ⟨w.heap.size, 1, none⟩) (Nat.le_refl _) (.slice (some ⟨g2, 0, none⟩) F.ns.length e2))
          go_wp2_with fail
          refine bodyPost_ret (v := .agg #[.slice D1 F.vs.length e1, .slice (some ⟨g2, 0, none⟩) F.ns.length e2]) (by simp [results, Try.results89, go_sem, hp1, hp2]) rfl ⟨_, _, ⟨F.vs, F.ns⟩, p2 + 1, rfl, hV.out.put2 h4 _ _, by show F.vs.length ≤ 5; omega, by show F.ns.length ≤ 82; omega, by show 1 ≤ F.ns.length; omega, by omega, hR9.out, hC9.out⟩
end Go.Proofs.Ytaipdkfbkcknkaa
