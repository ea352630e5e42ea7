/- Parts of the proof: L4. -/
import Derived.Test.YtghkpmafocacoaaZAQ
namespace Go.Proofs.Ytghkpmafocacoaa
set_option maxRecDepth 100000
set_option linter.unusedVariables false
open Go.RowKit
theorem put_bits (g : Gr) : ∀ a b : Fin 4, a ≠ b → bits .or .i64 (g.prs : Int) (bits .or .i64 ((2 ^ (4 * a.val + b.val) : Nat) : Int) ((2 ^ (4 * b.val + a.val) : Nat) : Int)) = ((g.put a.val b.val).prs : Int) :=
  gr_all (P := fun g => ∀ a b : Fin 4, a ≠ b → bits .or .i64 (g.prs : Int) (bits .or .i64 ((2 ^ (4 * a.val + b.val) : Nat) : Int) ((2 ^ (4 * b.val + a.val) : Nat) : Int)) = ((g.put a.val b.val).prs : Int)) (by decide +kernel) g
theorem pairBit_nat {a b : Nat} (ha : a ≤ 3) (hb : b ≤ 3) (w : World) :
    Calls Try.prog 188 #[.int .i64 (a : Int), .int .i64 (b : Int)] w fun e w' => e = .returned (.int .i64 ((2 ^ (4 * a + b) : Nat) : Int)) ∧ w' = w :=
  (pairBit_any ⟨a, by omega⟩ ⟨b, by omega⟩ w).mono fun e w' h => ⟨h.1, h.2.symm⟩
theorem index_arr4 {sn : Array Value} {u : Value} {q : Nat} (h : sn[q]? = some u) (hq : q < 4) (w : World) : (Instr.index 97 (.agg sn) (.int .i64 q)).run Try.prog w = .ok u w := by
  have hu := Try.underlying97
  have hc : (0 : Int) ≤ (q : Int) ∧ (q : Int) < 4 := by omega
  simp [Instr.index, run_underlying hu, asIntOf, go_sem, part, h, hc]
  intro h9
  omega
theorem index_R4 (r : Nat → Int) {q : Nat} (hq : q < 4) (w : World) : (Instr.index 97 (.agg #[.int .i64 (r 0), .int .i64 (r 1), .int .i64 (r 2), .int .i64 (r 3)]) (.int .i64 q)).run Try.prog w = .ok (.int .i64 (r q)) w := by
  refine index_arr4 ?_ hq w
  obtain rfl | rfl | rfl | rfl : q = 0 ∨ q = 1 ∨ q = 2 ∨ q = 3 := by omega
  all_goals rfl
/-- The roots while they are turned. -/
def rtF (f : Fo) (lo hi : Nat) (k : Nat) : Fo := { f with root := fun v => if v < k ∧ f.root v = (hi : Int) then (lo : Int) else f.root v }
theorem rtF_zero (f : Fo) (lo hi : Nat) : (rtF f lo hi 0).cells = f.cells := Fo.same (fun _ _ _ _ => rfl) (fun v _ => by
  show (if v < 0 ∧ f.root v = (hi : Int) then (lo : Int) else f.root v) = f.root v
  rw [if_neg (by omega)]) rfl (fun _ _ _ _ => ⟨rfl, rfl⟩) (fun _ _ _ _ _ _ => rfl)
theorem rtF_yes {f : Fo} {lo hi k : Nat} (h : f.root k = (hi : Int)) : ((rtF f lo hi k).setRoot k (lo : Int)).cells = (rtF f lo hi (k + 1)).cells := Fo.same (fun _ _ _ _ => rfl) (fun v _ => by
  show (if v = k then (lo : Int) else if v < k ∧ f.root v = (hi : Int) then (lo : Int) else f.root v) = if v < k + 1 ∧ f.root v = (hi : Int) then (lo : Int) else f.root v
  by_cases e : v = k
  · subst e
    rw [if_pos rfl, if_pos ⟨by omega, h⟩]
  · rw [if_neg e]
    by_cases e2 : v < k ∧ f.root v = (hi : Int)
    · rw [if_pos e2, if_pos ⟨by omega, e2.2⟩]
    · rw [if_neg e2, if_neg (fun q => e2 ⟨by omega, q.2⟩)]) rfl (fun _ _ _ _ => ⟨rfl, rfl⟩) (fun _ _ _ _ _ _ => rfl)
theorem rtF_no {f : Fo} {lo hi k : Nat} (h : f.root k ≠ (hi : Int)) : (rtF f lo hi k).cells = (rtF f lo hi (k + 1)).cells := Fo.same (fun _ _ _ _ => rfl) (fun v _ => by
  show (if v < k ∧ f.root v = (hi : Int) then (lo : Int) else f.root v) = if v < k + 1 ∧ f.root v = (hi : Int) then (lo : Int) else f.root v
  by_cases e2 : v < k ∧ f.root v = (hi : Int)
  · rw [if_pos e2, if_pos ⟨by omega, e2.2⟩]
  · rw [if_neg e2, if_neg (fun q => by
      by_cases e : v = k
      · subst e; exact h q.2
      · exact e2 ⟨by omega, q.2⟩)]) rfl (fun _ _ _ _ => ⟨rfl, rfl⟩) (fun _ _ _ _ _ _ => rfl)
/-- A forest that a pair has joined. -/
structure Joined_ (f f' : Fo) (g : Gr) (a b : Nat) (u1 u2 : Value) : Prop where
  own : f'.own = f.own
  told : f'.told = f.told
  root : ∀ v, v ≤ 3 → f'.root v = ((g.put a b).root v : Int)
  prs : f'.prs = ((g.put a b).prs : Int)
  b1 : ∀ u t, f'.b1 u t = if (u = a ∧ t = b) ∨ (u = b ∧ t = a) then u1 else f.b1 u t
  b2 : ∀ u t, f'.b2 u t = if (u = a ∧ t = b) ∨ (u = b ∧ t = a) then u2 else f.b2 u t
set_option maxHeartbeats 2000000 in
theorem join_any (G : Nat) (f : Fo) (g : Gr) (A1 : Option Addr) (c1 : Nat) (A2 : Option Addr) (n2 c2 : Nat) (a b : Fin 4) (w : World) (h : FoW w G f) (hab : a ≠ b) (hg : g.acy = true) (hr : ∀ v, v ≤ 3 → f.root v = (g.root v : Int)) (hp : f.prs = (g.prs : Int)) (hF : Ils w w.heap.size A1 2 [(a.val : Int), (b.val : Int)]) :
    Calls Try.prog 171 #[.pointer (some ⟨G, 0, none⟩), .agg #[.slice A1 2 c1, .slice A2 n2 c2]] w fun e w' => e = .returned (.bool (decide (g.root a.val ≠ g.root b.val))) ∧ KeptBut w w' (fun i => i = G) ∧ (g.root a.val ≠ g.root b.val → ∃ f', FoW w' G f' ∧ Joined_ f f' g a.val b.val (.slice A1 2 c1) (.slice A2 n2 c2)) := by
  obtain ⟨gl, off, rfl, hgl, hcl⟩ := hF.2 (by decide)
  have cl0 := hcl 0 _ rfl
  have cl1 := hcl 1 _ rfl
  obtain ⟨a, ha⟩ := a
  obtain ⟨b, hb⟩ := b
  simp only at cl0 cl1 ⊢
  have hG : G < w.heap.size := Has.lt h
  have hW0 := Lib.hid (h.alloc (.cells #[.slice (some ⟨gl, off, none⟩) 2 c1, .slice A2 n2 c2] 56))
  have hX0 := Lib.hid (Has.new w 56 #[.slice (some ⟨gl, off, none⟩) 2 c1, .slice A2 n2 c2])
  have hK0 := Lib.hid ((KeptBut.refl w (fun i => i = G)).alloc (.cells #[.slice (some ⟨gl, off, none⟩) 2 c1, .slice A2 n2 c2] 56))
  have cl0' : (w.alloc (.cells #[.slice (some ⟨gl, off, none⟩) 2 c1, .slice A2 n2 c2] 56)).cell? ⟨gl, off + 0, none⟩ = _ := ((Below.refl w.heap.size w).alloc (Nat.le_refl _) _).cell (p := ⟨gl, off + 0, none⟩) hgl |>.trans cl0
  have cl1' : (w.alloc (.cells #[.slice (some ⟨gl, off, none⟩) 2 c1, .slice A2 n2 c2] 56)).cell? ⟨gl, off + 1, none⟩ = _ := ((Below.refl w.heap.size w).alloc (Nat.le_refl _) _).cell (p := ⟨gl, off + 1, none⟩) hgl |>.trans cl1
  rw [Nat.add_zero] at cl0'
  have ra := (hW0.out.root_cell (v := a) (by omega) rfl).trans (by rw [hr a (by omega)])
  have rb := (hW0.out.root_cell (v := b) (by omega) rfl).trans (by rw [hr b (by omega)])
  have x0 := hX0.out.cell 0
  have x1 := hX0.out.cell 1
  have hla := (root_le g ⟨a, ha⟩).1
  have hlb := (root_le g ⟨b, hb⟩).1
  simp only at hla hlb
  have hrh := Lib.hid hr
  have hRa := Lib.hid (put_acy g ⟨a, ha⟩ ⟨b, hb⟩ hab hg)
  simp only at hRa
  clear cl0 cl1 hcl hF hr h
  generalize hra : g.root a = x at *
  generalize hrb : g.root b = y at *
  have hra' := Lib.hid hra
  have hrb' := Lib.hid hrb
  clear hra hrb
  generalize hW : w.alloc (.cells #[.slice (some ⟨gl, off, none⟩) 2 c1, .slice A2 n2 c2] 56) = W0 at *
  have hGG : w.heap.size < W0.heap.size := by rw [← hW]; simp
  have hWh := Lib.hid hW
  have ha0 : (0 : Int) ≤ (a : Int) := by omega
  have ha4 : (a : Int) < 4 := by omega
  have hb0 : (0 : Int) ≤ (b : Int) := by omega
  have hb4 : (b : Int) < 4 := by omega
  have hOk := Lib.hid (fun (wx : World) (hx : Below W0.heap.size W0 wx) => (show (fun wx => Below W0.heap.size W0 wx ∧ wx.cell? ⟨w.heap.size, 0, none⟩ = some (.slice (some ⟨gl, off, none⟩) 2 c1) ∧ wx.cell? ⟨w.heap.size, 1, none⟩ = some (.slice A2 n2 c2) ∧ wx.cell? ⟨gl, off, none⟩ = some (.int .i64 a) ∧ wx.cell? ⟨gl, off + 1, none⟩ = some (.int .i64 b) ∧ wx.cell? ⟨G, 12 + a, none⟩ = some (.int .i64 x) ∧ wx.cell? ⟨G, 12 + b, none⟩ = some (.int .i64 y)) wx from ⟨hx, (hx.cell (p := ⟨w.heap.size, 0, none⟩) hGG).trans x0, (hx.cell (p := ⟨w.heap.size, 1, none⟩) hGG).trans x1, (hx.cell (p := ⟨gl, off, none⟩) (show gl < W0.heap.size by omega)).trans cl0', (hx.cell (p := ⟨gl, off + 1, none⟩) (show gl < W0.heap.size by omega)).trans cl1', (hx.cell (p := ⟨G, 12 + a, none⟩) (show G < W0.heap.size by omega)).trans ra, (hx.cell (p := ⟨G, 12 + b, none⟩) (show G < W0.heap.size by omega)).trans rb⟩))
  have hmn : (if (y : Int) < (x : Int) then (y : Int) else (x : Int)) = ((min x y : Nat) : Int) := by split <;> omega
  have hmx : (if (x : Int) < (y : Int) then (y : Int) else (x : Int)) = ((max x y : Nat) : Int) := by split <;> omega
  by_cases hxy : x = y
  · subst hxy
    go_enter Try.func171, Try.ntmps171
    go_wp2_with fail
    clear hW hmn hmx
    have hxx : ¬ x < x := by omega
    go_region_held3 (fun wx => Below W0.heap.size W0 wx ∧ wx.cell? ⟨w.heap.size, 0, none⟩ = some (.slice (some ⟨gl, off, none⟩) 2 c1) ∧ wx.cell? ⟨w.heap.size, 1, none⟩ = some (.slice A2 n2 c2) ∧ wx.cell? ⟨gl, off, none⟩ = some (.int .i64 a) ∧ wx.cell? ⟨gl, off + 1, none⟩ = some (.int .i64 b) ∧ wx.cell? ⟨G, 12 + a, none⟩ = some (.int .i64 x) ∧ wx.cell? ⟨G, 12 + b, none⟩ = some (.int .i64 x)) (first | exact hOk.out _ ((Below.refl _ _).drew) | exact hOk.out _ (Below.refl _ _) | exact hOk.out _ (((Below.refl _ _).drew).drew) | go_keep) (fail)
    all_goals (go_wp2_with fail)
    all_goals (go_region_held3 (fun wx => Below W0.heap.size W0 wx ∧ wx.cell? ⟨w.heap.size, 0, none⟩ = some (.slice (some ⟨gl, off, none⟩) 2 c1) ∧ wx.cell? ⟨w.heap.size, 1, none⟩ = some (.slice A2 n2 c2) ∧ wx.cell? ⟨gl, off, none⟩ = some (.int .i64 a) ∧ wx.cell? ⟨gl, off + 1, none⟩ = some (.int .i64 b) ∧ wx.cell? ⟨G, 12 + a, none⟩ = some (.int .i64 x) ∧ wx.cell? ⟨G, 12 + b, none⟩ = some (.int .i64 x)) (first | exact hOk.out _ ((Below.refl _ _).drew) | exact hOk.out _ (Below.refl _ _) | exact hOk.out _ (((Below.refl _ _).drew).drew) | go_keep) (fail))
    all_goals (go_wp2_with fail)
    all_goals
      clear x0 x1 cl0' cl1' ra rb
      refine bodyPost_ret (v := .bool false) (by simp [results, Try.results171, go_sem]) rfl ?_
      refine ⟨by simp, ?_, fun q => absurd rfl q⟩
      exact hK0.out.trans (KeptBut.of_below ((Below.refl W0.heap.size W0).drew.drew) (fun i => i = G)) (fun _ _ h => h)
  · have hRR := Lib.hid (hRa.out hxy)
    clear hRa
    have hxyh := Lib.hid hxy
    have cP := Lib.hid (fun wx => pairBit_nat (a := a) (b := b) (by omega) (by omega) wx)
    have cQ := Lib.hid (fun wx => pairBit_nat (a := b) (b := a) (by omega) (by omega) wx)
    have hpt := Lib.hid (put_bits g ⟨a, ha⟩ ⟨b, hb⟩ hab)
    simp only at hpt
    obtain ⟨pa, hpa⟩ : ∃ pa : Int, ((2 ^ (4 * a + b) : Nat) : Int) = pa := ⟨_, rfl⟩
    obtain ⟨pb, hpb⟩ : ∃ pb : Int, ((2 ^ (4 * b + a) : Nat) : Int) = pb := ⟨_, rfl⟩
    rw [hpa] at cP hpt
    rw [hpb] at cQ hpt
    clear hpa hpb
    have hab' := Lib.hid (show a ≠ b from fun e => hab (by subst e; rfl))
    have hph := Lib.hid hp
    have hmnh := Lib.hid (show (if y < x then (y : Int) else (x : Int)) = ((min x y : Nat) : Int) by split <;> omega)
    have hmxh := Lib.hid (show (if x < y then (y : Int) else (x : Int)) = ((max x y : Nat) : Int) by split <;> omega)
    have hlh := Lib.hid (show ∀ lo hi : Nat, lo = min x y → hi = max x y → (∀ v, v ≤ 3 → (if f.root v = (hi : Int) then (lo : Int) else f.root v) = ((g.put a b).root v : Int)) ∧ lo ≠ hi from fun lo hi h1 h2 => ⟨fun v hv => by
      have h3 := hRR.out.2 ⟨v, by omega⟩
      simp only at h3
      rw [h3, hrh.out v hv]
      by_cases e : g.root v = hi
      · rw [if_pos (by rw [e]), if_pos (by omega), h1]
      · rw [if_neg (by omega), if_neg (by omega)], by omega⟩)
    clear hab hp hg hmn hmx hxy
    go_enter Try.func171, Try.ntmps171
    go_wp2_with fail
    clear hW
    go_region_held3 (fun wx => Below W0.heap.size W0 wx ∧ wx.cell? ⟨w.heap.size, 0, none⟩ = some (.slice (some ⟨gl, off, none⟩) 2 c1) ∧ wx.cell? ⟨w.heap.size, 1, none⟩ = some (.slice A2 n2 c2) ∧ wx.cell? ⟨gl, off, none⟩ = some (.int .i64 a) ∧ wx.cell? ⟨gl, off + 1, none⟩ = some (.int .i64 b) ∧ wx.cell? ⟨G, 12 + a, none⟩ = some (.int .i64 x) ∧ wx.cell? ⟨G, 12 + b, none⟩ = some (.int .i64 y)) (first | exact hOk.out _ ((Below.refl _ _).drew) | exact hOk.out _ (Below.refl _ _) | exact hOk.out _ (((Below.refl _ _).drew).drew) | go_keep) (fail)
    all_goals (go_wp2_with fail)
    all_goals (go_region_held3 (fun wx => Below W0.heap.size W0 wx ∧ wx.cell? ⟨w.heap.size, 0, none⟩ = some (.slice (some ⟨gl, off, none⟩) 2 c1) ∧ wx.cell? ⟨w.heap.size, 1, none⟩ = some (.slice A2 n2 c2) ∧ wx.cell? ⟨gl, off, none⟩ = some (.int .i64 a) ∧ wx.cell? ⟨gl, off + 1, none⟩ = some (.int .i64 b) ∧ wx.cell? ⟨G, 12 + a, none⟩ = some (.int .i64 x) ∧ wx.cell? ⟨G, 12 + b, none⟩ = some (.int .i64 y)) (first | exact hOk.out _ ((Below.refl _ _).drew) | exact hOk.out _ (Below.refl _ _) | exact hOk.out _ (((Below.refl _ _).drew).drew) | go_keep) (fail))
    all_goals
      have r0 : W0.drew.drew.cell? ⟨G, 12, none⟩ = _ := hW0.out.root_cell (v := 0) (by decide) rfl
      have r1 : W0.drew.drew.cell? ⟨G, 13, none⟩ = _ := hW0.out.root_cell (v := 1) (by decide) rfl
      have r2 : W0.drew.drew.cell? ⟨G, 14, none⟩ = _ := hW0.out.root_cell (v := 2) (by decide) rfl
      have r3 : W0.drew.drew.cell? ⟨G, 15, none⟩ = _ := hW0.out.root_cell (v := 3) (by decide) rfl
      have hF0 := Lib.hid (show FoW W0.drew.drew G f from hW0.out)
      have hX1 := Lib.hid (show Has W0.drew.drew w.heap.size 56 #[.slice (some ⟨gl, off, none⟩) 2 c1, .slice A2 n2 c2] from hX0.out)
      have hK1 := Lib.hid (hK0.out.trans (KeptBut.of_below ((Below.refl W0.heap.size W0).drew.drew) (fun i => i = G)) (fun _ _ h => h))
      rw [hmnh.out, hmxh.out]
      obtain ⟨lo, hlo⟩ : ∃ lo, min x y = lo := ⟨_, rfl⟩
      obtain ⟨hi, hhi⟩ : ∃ hi, max x y = hi := ⟨_, rfl⟩
      rw [hlo, hhi]
      obtain ⟨hfin0, hlohi⟩ := hlh.out lo hi hlo.symm hhi.symm
      have hfin := Lib.hid hfin0
      clear hfin0 hlo hhi
      have hne : ((lo : Int) == (hi : Int)) = false := by rw [beq_eq_false_iff_ne]; omega
      clear x0 x1 cl0' cl1' ra rb hW0 hX0 hK0 hOk hWh hGG hmnh hmxh hlh
      generalize W0.drew.drew = W1 at r0 r1 r2 r3 hF0 hX1 hK1 ⊢
      go_wp2_with fail
      clear r0 r1 r2 r3
      go_loopg [52] 4 (fun gn v wr => ∃ k : Nat, k ≤ 4 ∧ gn = 4 - k ∧ v = .int .i64 k ∧ FoW wr G (rtF f lo hi k) ∧ Has wr w.heap.size 56 #[.slice (some ⟨gl, off, none⟩) 2 c1, .slice A2 n2 c2] ∧ KeptBut w wr (fun i => i = G))
      case atStart => exact ⟨0, by omega, rfl, rfl, by unfold FoW; rw [rtF_zero]; exact hF0.out, hX1.out, hK1.out⟩
      case round =>
        obtain ⟨k, hk, hgn, rfl, hF, hX, hK⟩ := hrel
        have hgk : gk = 4 - k := hgn
        have hFh := Lib.hid hF
        have hXh := Lib.hid hX
        have hKh := Lib.hid hK
        clear hgn hF hX hK
        by_cases hlk : k < 4
        · have hk0 : (0 : Int) ≤ (k : Int) := by omega
          have hk4 : (k : Int) < 4 := by omega
          have hi4 := index_R4 f.root hlk
          have hne4 : w.heap.size ≠ G := by omega
          by_cases he : f.root k = (hi : Int)
          · rw [he] at hi4
            have ck := hFh.out.root_cell (v := k) (by omega) rfl
            have fk := Has.frozen hFh.out
            have hN := Lib.hid (hFh.out.root_set (v := k) (by omega) rfl (lo : Int))
            have hE := Lib.hid (rtF_yes (lo := lo) he)
            have hXn := Lib.hid (hXh.out.far (p := ⟨G, 12 + k, none⟩) hne4 (.int .i64 lo))
            have hKn := Lib.hid (hKh.out.put (p := ⟨G, 12 + k, none⟩) (fun _ => rfl) (.int .i64 lo))
            clear he
            go_wp2_with fail
            go_roundg (4 - (k + 1))
            case measure => omega
            case rel => exact ⟨k + 1, by omega, rfl, by go_num, by unfold FoW; rw [← hE.out]; exact hN.out, hXn.out, hKn.out⟩
          · have hE := Lib.hid (rtF_no (lo := lo) he)
            have heb : (f.root k == (hi : Int)) = false := by rw [beq_eq_false_iff_ne]; exact he
            have heh := Lib.hid he
            clear he
            generalize f.root k = z at hi4 heb
            go_wp2_with fail
            go_roundg (4 - (k + 1))
            case measure => omega
            case rel => exact ⟨k + 1, by omega, rfl, by go_num, by unfold FoW; rw [← hE.out]; exact hFh.out, hXh.out, hKh.out⟩
        · obtain rfl : k = 4 := by omega
          have c16 := hFh.out.prs_cell
          rw [show (rtF f lo hi 4).prs = (g.prs : Int) from hph.out] at c16
          have f16 := Has.frozen hFh.out 16
          go_wp2_with fail
          go_still_tail 14, (by kernel_rfl)
          repeat still_step
          still_call (cP.out wr.drew)
          repeat still_step
          still_call (cQ.out wr.drew)
          repeat still_step
          try (refine wpStill_nil ?_)
          try (change wpList _ _ _ _ _ (World.drew _))
          have hF2 := Lib.hid (show FoW (wr.setCell ⟨G, 16, none⟩ (.int .i64 ((g.put a b).prs : Int))).drew G _ from FoW.prs_set (w := wr) hFh.out _)
          have hX2 := Lib.hid (show Has (wr.setCell ⟨G, 16, none⟩ (.int .i64 ((g.put a b).prs : Int))).drew w.heap.size _ _ from Has.far (w := wr) hXh.out (p := ⟨G, 16, none⟩) (show w.heap.size ≠ G by omega) (.int .i64 ((g.put a b).prs : Int)))
          have hK2 := Lib.hid (show KeptBut w (wr.setCell ⟨G, 16, none⟩ (.int .i64 ((g.put a b).prs : Int))).drew (fun i => i = G) from ((hKh.out.put (p := ⟨G, 16, none⟩) (fun _ => rfl) (.int .i64 ((g.put a b).prs : Int))).trans (KeptBut.of_below (Below.refl _ (wr.setCell ⟨G, 16, none⟩ (.int .i64 ((g.put a b).prs : Int)))).drew (fun i => i = G)) (fun _ _ h => h)))
          go_wp2_with fail
          rw [hpt.out]
          generalize (wr.setCell ⟨G, 16, none⟩ (.int .i64 ((g.put a b).prs : Int))).drew = W2 at hF2 hX2 hK2 ⊢
          clear hFh hXh hKh c16 f16
          have x0 := hX2.out.cell 0
          have x1 := hX2.out.cell 1
          have b0 := (Has.cell hF2.out _).trans (Fo.b1_at _ (a := a) (b := b) (by omega) (by omega) rfl)
          have b1 := (Has.cell hF2.out _).trans (Fo.b2_at _ (a := a) (b := b) (by omega) (by omega) rfl)
          have ff := Has.frozen hF2.out
          have hN1 := (hF2.out.b1_set (u := a) (t := b) (by omega) (by omega) rfl (.slice (some ⟨gl, off, none⟩) 2 c1)).b2_set (u := a) (t := b) (by omega) (by omega) rfl (.slice A2 n2 c2)
          have hXN1 := (Has.far (w := W2) hX2.out (p := ⟨G, 17 + a * 8 + b * 2, none⟩) (show w.heap.size ≠ G by omega) (.slice (some ⟨gl, off, none⟩) 2 c1)).far (p := ⟨G, 17 + a * 8 + b * 2 + 1, none⟩) (show w.heap.size ≠ G by omega) (.slice A2 n2 c2)
          have hKN1 := (hK2.out.put (p := ⟨G, 17 + a * 8 + b * 2, none⟩) (fun _ => rfl) (.slice (some ⟨gl, off, none⟩) 2 c1)).put (p := ⟨G, 17 + a * 8 + b * 2 + 1, none⟩) (fun _ => rfl) (.slice A2 n2 c2)
          have hN1h := Lib.hid hN1
          have hXN1h := Lib.hid hXN1
          have hKN1h := Lib.hid hKN1
          clear hN1 hXN1 hKN1
          go_still_tail 8, (by kernel_rfl)
          repeat still_step
          try (refine wpStill_nil ?_)
          try (change wpList _ _ _ _ _ (World.drew _))
          go_wp2_with fail
          have hF3 := Lib.hid (show FoW ((W2.setCell ⟨G, 17 + a * 8 + b * 2, none⟩ (.slice (some ⟨gl, off, none⟩) 2 c1)).setCell ⟨G, 17 + a * 8 + b * 2 + 1, none⟩ (.slice A2 n2 c2)).drew G _ from hN1h.out)
          have hX3 := Lib.hid (show Has ((W2.setCell ⟨G, 17 + a * 8 + b * 2, none⟩ (.slice (some ⟨gl, off, none⟩) 2 c1)).setCell ⟨G, 17 + a * 8 + b * 2 + 1, none⟩ (.slice A2 n2 c2)).drew w.heap.size _ _ from hXN1h.out)
          have hK3 := Lib.hid (show KeptBut w ((W2.setCell ⟨G, 17 + a * 8 + b * 2, none⟩ (.slice (some ⟨gl, off, none⟩) 2 c1)).setCell ⟨G, 17 + a * 8 + b * 2 + 1, none⟩ (.slice A2 n2 c2)).drew (fun i => i = G) from hKN1h.out.trans (KeptBut.of_below (Below.refl _ ((W2.setCell ⟨G, 17 + a * 8 + b * 2, none⟩ (.slice (some ⟨gl, off, none⟩) 2 c1)).setCell ⟨G, 17 + a * 8 + b * 2 + 1, none⟩ (.slice A2 n2 c2))).drew (fun i => i = G)) (fun _ _ h => h))
          generalize ((W2.setCell ⟨G, 17 + a * 8 + b * 2, none⟩ (.slice (some ⟨gl, off, none⟩) 2 c1)).setCell ⟨G, 17 + a * 8 + b * 2 + 1, none⟩ (.slice A2 n2 c2)).drew = W3 at hF3 hX3 hK3 ⊢
          clear hN1h hXN1h hKN1h x0 x1 b0 b1 ff hF2 hX2 hK2
          have x0 := hX3.out.cell 0
          have x1 := hX3.out.cell 1
          have b0 := (Has.cell hF3.out _).trans (Fo.b1_at _ (a := b) (b := a) (by omega) (by omega) rfl)
          have b1 := (Has.cell hF3.out _).trans (Fo.b2_at _ (a := b) (b := a) (by omega) (by omega) rfl)
          have ff := Has.frozen hF3.out
          have hF4 := Lib.hid ((hF3.out.b1_set (u := b) (t := a) (by omega) (by omega) rfl (.slice (some ⟨gl, off, none⟩) 2 c1)).b2_set (u := b) (t := a) (by omega) (by omega) rfl (.slice A2 n2 c2))
          have hK4 := Lib.hid ((hK3.out.put (p := ⟨G, 17 + b * 8 + a * 2, none⟩) (fun _ => rfl) (.slice (some ⟨gl, off, none⟩) 2 c1)).put (p := ⟨G, 17 + b * 8 + a * 2 + 1, none⟩) (fun _ => rfl) (.slice A2 n2 c2))
          go_still_tail 8, (by kernel_rfl)
          repeat still_step
          try (refine wpStill_nil ?_)
          try (change wpList _ _ _ _ _ (World.drew _))
          go_wp2_with fail
          refine bodyPost_ret (v := .bool true) (by simp [results, Try.results171, go_sem]) rfl ?_
          refine ⟨by rw [decide_eq_true hxyh.out], hK4.out.trans (KeptBut.of_below (Below.refl _ _).drew (fun i => i = G)) (fun _ _ h => h), fun _ => ⟨_, hF4.out, ⟨rfl, rfl, fun v hv => by
            have h4 := hfin.out v hv
            show (if v < 4 ∧ f.root v = (hi : Int) then (lo : Int) else f.root v) = _
            rw [← h4]
            by_cases e : f.root v = (hi : Int)
            · rw [if_pos ⟨by omega, e⟩, if_pos e]
            · rw [if_neg (fun q => e q.2), if_neg e], rfl, ?_, ?_⟩⟩⟩
          · intro u t
            show (if u = b ∧ t = a then (.slice (some ⟨gl, off, none⟩) 2 c1) else if u = a ∧ t = b then (.slice (some ⟨gl, off, none⟩) 2 c1) else f.b1 u t) = if (u = a ∧ t = b) ∨ (u = b ∧ t = a) then (.slice (some ⟨gl, off, none⟩) 2 c1) else f.b1 u t
            by_cases e1 : u = b ∧ t = a
            · rw [if_pos e1, if_pos (.inr e1)]
            · rw [if_neg e1]
              by_cases e2 : u = a ∧ t = b
              · rw [if_pos e2, if_pos (.inl e2)]
              · rw [if_neg e2, if_neg (fun q => q.elim e2 e1)]
          · intro u t
            show (if u = b ∧ t = a then (.slice A2 n2 c2) else if u = a ∧ t = b then (.slice A2 n2 c2) else f.b2 u t) = if (u = a ∧ t = b) ∨ (u = b ∧ t = a) then (.slice A2 n2 c2) else f.b2 u t
            by_cases e1 : u = b ∧ t = a
            · rw [if_pos e1, if_pos (.inr e1)]
            · rw [if_neg e1]
              by_cases e2 : u = a ∧ t = b
              · rw [if_pos e2, if_pos (.inl e2)]
              · rw [if_neg e2, if_neg (fun q => q.elim e2 e1)]
end Go.Proofs.Ytghkpmafocacoaa
