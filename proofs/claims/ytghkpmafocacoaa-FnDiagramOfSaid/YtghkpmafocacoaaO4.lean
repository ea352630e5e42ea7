/- Diagrams: the program's cellOk. -/
import Derived.Test.YtghkpmafocacoaaO3
import Derived.Test.YtghkpmafocacoaaSwx
import Derived.Test.YtghkpmafocacoaaRz
namespace Go.Proofs.Ytghkpmafocacoaa
set_option maxRecDepth 100000
set_option linter.unusedVariables false
open Go.RowKit

theorem cOk_leaf {s : Ce} {ds : List Ce} (h : (s.v == -1) = true) : cOk s ds = (inB s.n 0 1000000000 && eq3 s.a s.b s.c 0 0 0) := by
  unfold cOk eq3
  rw [if_pos (by simpa using h)]
theorem wrap_nat1 {n : Nat} (h : n ≤ 121) : IntKind.i64.wrap ((n : Int) - 1) = (n : Int) - 1 := by rw [IntKind.wrap_i64]; omega
theorem cOk_node {s : Ce} {ds : List Ce} (h : (s.v == -1) = false) : cOk s ds = (inB s.v 0 3 && s.n == 0 && (kOk ds s.v s.a && kOk ds s.v s.b && kOk ds s.v s.c)) := by
  unfold cOk
  rw [if_neg (by simpa using h)]
set_option maxHeartbeats 1000000 in
theorem cellOk_any (A : Option Addr) (n c : Nat) (s : Ce) (ds : List Ce) (w : World) (h : CLst w w.heap.size A n ds) (hn : n ≤ 121) :
    Calls Try.prog 70 #[.agg #[.int .i64 s.v, .int .i64 s.n, .int .i64 s.a, .int .i64 s.b, .int .i64 s.c], .slice A n c] w fun e w' => e = .returned (.bool (cOk s ds)) ∧ Below w.heap.size w w' := by
  have eqA : ∀ (u v x : Int) (w : World), (Op.equalIn 10000 45 (.agg #[.int .i64 u, .int .i64 v, .int .i64 x]) (.agg #[.int .i64 0, .int .i64 0, .int .i64 0])).run Try.prog w = .ok (eq3 u v x 0 0 0) w := fun u v x w => eqW u v x 0 0 0 w
  have hB0 : Below w.heap.size w (w.alloc (.cells #[.int .i64 s.v, .int .i64 s.n, .int .i64 s.a, .int .i64 s.b, .int .i64 s.c] 47)) := (Below.refl _ _).alloc (Nat.le_refl _) _
  have hB := Lib.hid hB0
  rcases ce_leaf s with hv | hv
  · have hX := cOk_leaf (ds := ds) hv
    cases h1 : inB s.n 0 1000000000
    · have hR := Lib.hid (show cOk s ds = false by rw [hX, h1]; rfl)
      clear hX h hB0
      go_enter Try.func70, Try.ntmps70
      go_wp2_with (go_at_call 69; refine (within_any _ _ _ _).mono ?_; rw [h1]; rintro e w' ⟨rfl, rfl⟩)
      go_ret
      exact ⟨ret_bool hR.out, hB.out⟩
    · have hR := Lib.hid (show cOk s ds = eq3 s.a s.b s.c 0 0 0 by rw [hX, h1]; rfl)
      clear hX h hB0
      go_enter Try.func70, Try.ntmps70
      go_wp2_with (go_at_call 69; refine (within_any _ _ _ _).mono ?_; rw [h1]; rintro e w' ⟨rfl, rfl⟩)
      go_ret
      exact ⟨ret_bool hR.out, hB.out⟩
  · have hX := cOk_node (ds := ds) hv
    cases h1 : inB s.v 0 3
    · have hR := Lib.hid (show cOk s ds = false by rw [hX, h1]; rfl)
      clear hX h hB0
      go_enter Try.func70, Try.ntmps70
      go_wp2_with (go_at_call 97; refine (varOk_any _ _).mono ?_; rw [h1]; rintro e w' ⟨rfl, rfl⟩)
      go_ret
      exact ⟨ret_bool hR.out, hB.out⟩
    cases h2 : (s.n == 0)
    · have hR := Lib.hid (show cOk s ds = false by rw [hX, h1, h2]; rfl)
      have h2' : (s.n != 0) = true := by rw [bne, h2]; rfl
      clear hX h hB0
      go_enter Try.func70, Try.ntmps70
      go_wp2_with (go_at_call 97; refine (varOk_any _ _).mono ?_; rw [h1]; rintro e w' ⟨rfl, rfl⟩)
      go_ret
      exact ⟨ret_bool hR.out, hB.out⟩
    have hR := Lib.hid (show cOk s ds = (kOk ds s.v s.a && kOk ds s.v s.b && kOk ds s.v s.c) by rw [hX, h1, h2]; rfl)
    have h2' : (s.n != 0) = false := by rw [bne, h2]; rfl
    have hH := Lib.hid (h.below hB0)
    have hW := Lib.hid (Has.new w 47 #[.int .i64 s.v, .int .i64 s.n, .int .i64 s.a, .int .i64 s.b, .int .i64 s.c])
    clear hX h hB0
    go_enter Try.func70, Try.ntmps70
    go_wp2_with (go_at_call 97; refine (varOk_any _ _).mono ?_; rw [h1]; rintro e w' ⟨rfl, rfl⟩)
    have hz := hB.out.size
    generalize w.alloc (.cells #[.int .i64 s.v, .int .i64 s.n, .int .i64 s.a, .int .i64 s.b, .int .i64 s.c] 47) = W0 at hH hW hB hz ⊢
    generalize hG : w.heap.size = G at hH hW hB hz ⊢
    clear h1 h2 h2' eqA
    have i0 : ∀ w, (Instr.index 45 (.agg #[.int .i64 s.a, .int .i64 s.b, .int .i64 s.c]) (.int .i64 0)).run Try.prog w = .ok (.int .i64 s.a) w := fun _ => by kernel_rfl
    have i1 : ∀ w, (Instr.index 45 (.agg #[.int .i64 s.a, .int .i64 s.b, .int .i64 s.c]) (.int .i64 1)).run Try.prog w = .ok (.int .i64 s.b) w := fun _ => by kernel_rfl
    have i2 : ∀ w, (Instr.index 45 (.agg #[.int .i64 s.a, .int .i64 s.b, .int .i64 s.c]) (.int .i64 2)).run Try.prog w = .ok (.int .i64 s.c) w := fun _ => by kernel_rfl
    go_loopw [30] (fun i wr => Below W0.heap.size W0 wr ∧ (i = .int .i64 0 ∨ (i = .int .i64 1 ∧ kOk ds s.v s.a = true) ∨ (i = .int .i64 2 ∧ kOk ds s.v s.a = true ∧ kOk ds s.v s.b = true) ∨ (i = .int .i64 3 ∧ kOk ds s.v s.a = true ∧ kOk ds s.v s.b = true ∧ kOk ds s.v s.c = true))) (fun i _ => 3 - (intOf i).toNat)
    case atStart => exact ⟨Below.refl _ _, .inl rfl⟩
    case round =>
      obtain ⟨hb, hrel⟩ := hrel
      have hB2 := Lib.hid (hB.out.trans (hb.mono hz))
      have hHr := Lib.hid (hH.out.below (hb.mono hz))
      have hWr := Lib.hid (hW.out.kept hb)
      have hLr := Lib.hid hb
      have hzr := hb.size
      clear hb
      rcases hrel with rfl | ⟨rfl, ha⟩ | ⟨rfl, ha, hb'⟩ | ⟨rfl, ha, hb', hc'⟩
      · have hlen := hHr.out.1
        have cI := Lib.hid (fun wx => within_any s.a 0 ((n : Int) - 1) wx)
        rcases inB_cases s.a 0 ((n : Int) - 1) with ⟨q1, q2, q3⟩ | ⟨q1, q3⟩
        · obtain ⟨k, hk⟩ : ∃ k : Nat, s.a = k := ⟨_, (Int.toNat_of_nonneg q1).symm⟩
          obtain ⟨g, off, rfl, hg, hat⟩ := hHr.out.gt_ (k := k) (by omega)
          have hgz : g < wr.heap.size := by omega
          have hkn : k < n := by omega
          obtain ⟨c0, c1, c2, c3, c4⟩ := hat.open_
          have hKd : kOk ds s.v s.a = !(decide ((gt ds k).lev ≤ s.v)) := by
            unfold kOk
            rw [hlen, q3, Bool.true_and, hk, Int.toNat_natCast, ← decide_not]
            exact decide_eq_decide.2 (by omega)
          rw [q3, hk] at cI
          rw [hk] at i0 i1 i2
          generalize gt ds k = d at *
          have cL := Lib.hid (fun wx => levelOf_any d wx)
          have hKn : (s.a = (k : Int)) := hk
          have hOk := Lib.hid (fun (wx : World) (hx : Below wr.heap.size wr wx) => (show Below wr.heap.size wr wx ∧ wx.cell? ⟨G, 0, none⟩ = some (.int .i64 s.v) ∧ wx.cell? ⟨G, 1, none⟩ = some (.int .i64 s.n) ∧ wx.cell? ⟨G, 2, none⟩ = some (.int .i64 s.a) ∧ wx.cell? ⟨G, 3, none⟩ = some (.int .i64 s.b) ∧ wx.cell? ⟨G, 4, none⟩ = some (.int .i64 s.c) ∧ wx.cell? ⟨g, off + k * 5, none⟩ = some (.int .i64 d.v) ∧ wx.cell? ⟨g, off + k * 5 + 1, none⟩ = some (.int .i64 d.n) ∧ wx.cell? ⟨g, off + k * 5 + 2, none⟩ = some (.int .i64 d.a) ∧ wx.cell? ⟨g, off + k * 5 + 3, none⟩ = some (.int .i64 d.b) ∧ wx.cell? ⟨g, off + k * 5 + 4, none⟩ = some (.int .i64 d.c) from ⟨hx, (hWr.out.kept hx).cell 0, (hWr.out.kept hx).cell 1, (hWr.out.kept hx).cell 2, (hWr.out.kept hx).cell 3, (hWr.out.kept hx).cell 4, (hx.cell (p := ⟨g, off + k * 5, none⟩) (by exact hgz)).trans c0, (hx.cell (p := ⟨g, off + k * 5 + 1, none⟩) (by exact hgz)).trans c1, (hx.cell (p := ⟨g, off + k * 5 + 2, none⟩) (by exact hgz)).trans c2, (hx.cell (p := ⟨g, off + k * 5 + 3, none⟩) (by exact hgz)).trans c3, (hx.cell (p := ⟨g, off + k * 5 + 4, none⟩) (by exact hgz)).trans c4⟩))
          obtain ⟨_, e0, e1, e2, e3, e4, _⟩ := hOk.out wr (Below.refl _ _)
          clear c0 c1 c2 c3 c4 hat q1 q2 q3 hk
          go_wp2_with fail
          have hKh := Lib.hid hKn
          clear hKn
          refine wp_region_any (by kernel_rfl) ?_
          change wpAny _ _ _ _ _ _ _ (World.drew _)
          refine wpAny_last (n := 15) (I := fun listed aq wx => listed.size = 16 ∧ ∃ v33 v34 v35 v36 v37 v38 v39 v40 v41 v42 v43 v44 v45 v46 v47 : Value, aq = { tmps := #[.agg #[.int .i64 s.v, .int .i64 s.n, .int .i64 s.a, .int .i64 s.b, .int .i64 s.c], .slice (some ⟨g, off, none⟩) n c, .pointer (some ⟨G, 0, none⟩), undef, u4, undef, .int .i64 ↑k, .pointer (some ⟨G, 0, none⟩), .int .i64 s.v, .bool false, undef, undef, undef, undef, undef, undef, undef, undef, undef, .pointer (some ⟨G, 0, none⟩), .int .i64 s.v, .bool true, .bool false, .bool false, .pointer (some ⟨G, 1, none⟩), .int .i64 s.n, .bool false, .bool false, .pointer (some ⟨G, 2, none⟩), .agg #[.int .i64 s.a, .int .i64 s.b, .int .i64 s.c], .int .i64 0, .bool true, .int .i64 ↑k, v33, v34, v35, v36, v37, v38, v39, v40, v41, v42, v43, v44, v45, v46, v47, u48, u49], defers := [] } ∧ (listed.getD 0 false = true → v33 = .int .i64 ↑k) ∧ (listed.getD 1 false = true → v34 = .slice (some ⟨g, off, none⟩) n c) ∧ (listed.getD 2 false = true → v35 = .int .i64 (n : Int)) ∧ (listed.getD 3 false = true → v36 = .int .i64 ((n : Int) - 1)) ∧ (listed.getD 4 false = true → v37 = .bool true) ∧ (listed.getD 5 false = true → v38 = .bool false) ∧ (listed.getD 6 false = true → v39 = .bool false) ∧ (listed.getD 7 false = true → v40 = .slice (some ⟨g, off, none⟩) n c) ∧ (listed.getD 8 false = true → v41 = .int .i64 ↑k) ∧ (listed.getD 9 false = true → v42 = .pointer (some ⟨g, off + k * 5, none⟩)) ∧ (listed.getD 10 false = true → v43 = .agg #[.int .i64 d.v, .int .i64 d.n, .int .i64 d.a, .int .i64 d.b, .int .i64 d.c]) ∧ (listed.getD 11 false = true → v44 = .int .i64 d.lev) ∧ (listed.getD 12 false = true → v45 = .pointer (some ⟨G, 0, none⟩)) ∧ (listed.getD 13 false = true → v46 = .int .i64 s.v) ∧ (listed.getD 14 false = true → v47 = .bool (decide (d.lev ≤ s.v))) ∧ Below wr.heap.size wr wx) rfl (by kernel_rfl) (by kernel_rfl) ?hs ?hl _ _ _ ?st rfl (by decide) _ (by decide)
          case st =>
            refine ⟨rfl, u33, u34, u35, u36, u37, u38, u39, u40, u41, u42, u43, u44, u45, u46, u47, rfl, ?_, ?_, ?_, ?_, ?_, ?_, ?_, ?_, ?_, ?_, ?_, ?_, ?_, ?_, ?_, (Below.refl _ _).drew⟩ <;> (intro e; exact absurd e (by decide))
          case hs =>
            rintro listed aq wx ⟨hz, v33, v34, v35, v36, v37, v38, v39, v40, v41, v42, v43, v44, v45, v46, v47, rfl, hII⟩ i hin hi
            obtain ⟨h0, o, ho, hd⟩ := mem_ready.1 hi
            have K0 := Lib.hid hII.1
            have K1 := Lib.hid hII.2.1
            have K2 := Lib.hid hII.2.2.1
            have K3 := Lib.hid hII.2.2.2.1
            have K4 := Lib.hid hII.2.2.2.2.1
            have K5 := Lib.hid hII.2.2.2.2.2.1
            have K6 := Lib.hid hII.2.2.2.2.2.2.1
            have K7 := Lib.hid hII.2.2.2.2.2.2.2.1
            have K8 := Lib.hid hII.2.2.2.2.2.2.2.2.1
            have K9 := Lib.hid hII.2.2.2.2.2.2.2.2.2.1
            have K10 := Lib.hid hII.2.2.2.2.2.2.2.2.2.2.1
            have K11 := Lib.hid hII.2.2.2.2.2.2.2.2.2.2.2.1
            have K12 := Lib.hid hII.2.2.2.2.2.2.2.2.2.2.2.2.1
            have K13 := Lib.hid hII.2.2.2.2.2.2.2.2.2.2.2.2.2.1
            have K14 := Lib.hid hII.2.2.2.2.2.2.2.2.2.2.2.2.2.2.1
            have hB : Below wr.heap.size wr wx := hII.2.2.2.2.2.2.2.2.2.2.2.2.2.2.2
            have hne := Lib.hid (fun k (hk : i ≠ k) => @listed_ne listed i k hk)
            have h0f : listed.getD i false = false := by rw [Array.getD_eq_getD_getElem?, getD_false h0]; rfl
            clear hII hi h0
            rcases (by omega : i = 0 ∨ i = 1 ∨ i = 2 ∨ i = 3 ∨ i = 4 ∨ i = 5 ∨ i = 6 ∨ i = 7 ∨ i = 8 ∨ i = 9 ∨ i = 10 ∨ i = 11 ∨ i = 12 ∨ i = 13 ∨ i = 14) with rfl | rfl | rfl | rfl | rfl | rfl | rfl | rfl | rfl | rfl | rfl | rfl | rfl | rfl | rfl
            · cases ho
              refine wpOp_step rfl (fun K hK => ?_)
              go_simp
              refine hK _ _ ⟨by simpa using hz, .int .i64 ↑k, v34, v35, v36, v37, v38, v39, v40, v41, v42, v43, v44, v45, v46, v47, rfl, ?_⟩
              exact ⟨fun _ => rfl, fun e => K1.out (hne.out 1 (by decide) e), fun e => K2.out (hne.out 2 (by decide) e), fun e => K3.out (hne.out 3 (by decide) e), fun e => K4.out (hne.out 4 (by decide) e), fun e => K5.out (hne.out 5 (by decide) e), fun e => K6.out (hne.out 6 (by decide) e), fun e => K7.out (hne.out 7 (by decide) e), fun e => K8.out (hne.out 8 (by decide) e), fun e => K9.out (hne.out 9 (by decide) e), fun e => K10.out (hne.out 10 (by decide) e), fun e => K11.out (hne.out 11 (by decide) e), fun e => K12.out (hne.out 12 (by decide) e), fun e => K13.out (hne.out 13 (by decide) e), fun e => K14.out (hne.out 14 (by decide) e), hB⟩
            · cases ho
              refine wpOp_step rfl (fun K hK => ?_)
              go_simp
              refine hK _ _ ⟨by simpa using hz, v33, .slice (some ⟨g, off, none⟩) n c, v35, v36, v37, v38, v39, v40, v41, v42, v43, v44, v45, v46, v47, rfl, ?_⟩
              exact ⟨fun e => K0.out (hne.out 0 (by decide) e), fun _ => rfl, fun e => K2.out (hne.out 2 (by decide) e), fun e => K3.out (hne.out 3 (by decide) e), fun e => K4.out (hne.out 4 (by decide) e), fun e => K5.out (hne.out 5 (by decide) e), fun e => K6.out (hne.out 6 (by decide) e), fun e => K7.out (hne.out 7 (by decide) e), fun e => K8.out (hne.out 8 (by decide) e), fun e => K9.out (hne.out 9 (by decide) e), fun e => K10.out (hne.out 10 (by decide) e), fun e => K11.out (hne.out 11 (by decide) e), fun e => K12.out (hne.out 12 (by decide) e), fun e => K13.out (hne.out 13 (by decide) e), fun e => K14.out (hne.out 14 (by decide) e), hB⟩
            · cases ho
              have d1 := hd ⟨1, .data⟩ (by simp) rfl
              obtain rfl := K1.out d1
              refine wpOp_step rfl (fun K hK => ?_)
              go_simp
              refine hK _ _ ⟨by simpa using hz, v33, .slice (some ⟨g, off, none⟩) n c, .int .i64 (n : Int), v36, v37, v38, v39, v40, v41, v42, v43, v44, v45, v46, v47, rfl, ?_⟩
              exact ⟨fun e => K0.out (hne.out 0 (by decide) e), fun e => K1.out (hne.out 1 (by decide) e), fun _ => rfl, fun e => K3.out (hne.out 3 (by decide) e), fun e => K4.out (hne.out 4 (by decide) e), fun e => K5.out (hne.out 5 (by decide) e), fun e => K6.out (hne.out 6 (by decide) e), fun e => K7.out (hne.out 7 (by decide) e), fun e => K8.out (hne.out 8 (by decide) e), fun e => K9.out (hne.out 9 (by decide) e), fun e => K10.out (hne.out 10 (by decide) e), fun e => K11.out (hne.out 11 (by decide) e), fun e => K12.out (hne.out 12 (by decide) e), fun e => K13.out (hne.out 13 (by decide) e), fun e => K14.out (hne.out 14 (by decide) e), hB⟩
            · cases ho
              have d2 := hd ⟨2, .data⟩ (by simp) rfl
              obtain rfl := K2.out d2
              have hw1 : IntKind.i64.wrap ((n : Int) - 1) = (n : Int) - 1 := wrap_nat1 hn
              refine wpOp_step rfl (fun K hK => ?_)
              go_simp
              refine hK _ _ ⟨by simpa using hz, v33, v34, .int .i64 (n : Int), .int .i64 ((n : Int) - 1), v37, v38, v39, v40, v41, v42, v43, v44, v45, v46, v47, rfl, ?_⟩
              exact ⟨fun e => K0.out (hne.out 0 (by decide) e), fun e => K1.out (hne.out 1 (by decide) e), fun e => K2.out (hne.out 2 (by decide) e), fun _ => rfl, fun e => K4.out (hne.out 4 (by decide) e), fun e => K5.out (hne.out 5 (by decide) e), fun e => K6.out (hne.out 6 (by decide) e), fun e => K7.out (hne.out 7 (by decide) e), fun e => K8.out (hne.out 8 (by decide) e), fun e => K9.out (hne.out 9 (by decide) e), fun e => K10.out (hne.out 10 (by decide) e), fun e => K11.out (hne.out 11 (by decide) e), fun e => K12.out (hne.out 12 (by decide) e), fun e => K13.out (hne.out 13 (by decide) e), fun e => K14.out (hne.out 14 (by decide) e), hB⟩
            · cases ho
              have d0 := hd ⟨0, .data⟩ (by simp) rfl
              have d3 := hd ⟨3, .data⟩ (by simp) rfl
              obtain rfl := K0.out d0
              obtain rfl := K3.out d3
              refine wpOp_step rfl (fun K hK => ?_)
              go_simp
              go_at_call 69
              refine (cI.out _).mono ?_
              rintro e w3 ⟨rfl, rfl⟩
              refine hK _ _ ⟨by simpa using hz, .int .i64 ↑k, v34, v35, .int .i64 ((n : Int) - 1), .bool true, v38, v39, v40, v41, v42, v43, v44, v45, v46, v47, rfl, ?_⟩
              exact ⟨fun e => K0.out (hne.out 0 (by decide) e), fun e => K1.out (hne.out 1 (by decide) e), fun e => K2.out (hne.out 2 (by decide) e), fun e => K3.out (hne.out 3 (by decide) e), fun _ => rfl, fun e => K5.out (hne.out 5 (by decide) e), fun e => K6.out (hne.out 6 (by decide) e), fun e => K7.out (hne.out 7 (by decide) e), fun e => K8.out (hne.out 8 (by decide) e), fun e => K9.out (hne.out 9 (by decide) e), fun e => K10.out (hne.out 10 (by decide) e), fun e => K11.out (hne.out 11 (by decide) e), fun e => K12.out (hne.out 12 (by decide) e), fun e => K13.out (hne.out 13 (by decide) e), fun e => K14.out (hne.out 14 (by decide) e), hB⟩
            · cases ho
              have d4 := hd ⟨4, .data⟩ (by simp) rfl
              obtain rfl := K4.out d4
              refine wpOp_step rfl (fun K hK => ?_)
              go_simp
              refine hK _ _ ⟨by simpa using hz, v33, v34, v35, v36, .bool true, .bool false, v39, v40, v41, v42, v43, v44, v45, v46, v47, rfl, ?_⟩
              exact ⟨fun e => K0.out (hne.out 0 (by decide) e), fun e => K1.out (hne.out 1 (by decide) e), fun e => K2.out (hne.out 2 (by decide) e), fun e => K3.out (hne.out 3 (by decide) e), fun e => K4.out (hne.out 4 (by decide) e), fun _ => rfl, fun e => K6.out (hne.out 6 (by decide) e), fun e => K7.out (hne.out 7 (by decide) e), fun e => K8.out (hne.out 8 (by decide) e), fun e => K9.out (hne.out 9 (by decide) e), fun e => K10.out (hne.out 10 (by decide) e), fun e => K11.out (hne.out 11 (by decide) e), fun e => K12.out (hne.out 12 (by decide) e), fun e => K13.out (hne.out 13 (by decide) e), fun e => K14.out (hne.out 14 (by decide) e), hB⟩
            · cases ho
              have d5 := hd ⟨5, .data⟩ (by simp) rfl
              obtain rfl := K5.out d5
              refine wpOp_step rfl (fun K hK => ?_)
              go_simp
              refine hK _ _ ⟨by simpa using hz, v33, v34, v35, v36, v37, .bool false, .bool false, v40, v41, v42, v43, v44, v45, v46, v47, rfl, ?_⟩
              exact ⟨fun e => K0.out (hne.out 0 (by decide) e), fun e => K1.out (hne.out 1 (by decide) e), fun e => K2.out (hne.out 2 (by decide) e), fun e => K3.out (hne.out 3 (by decide) e), fun e => K4.out (hne.out 4 (by decide) e), fun e => K5.out (hne.out 5 (by decide) e), fun _ => rfl, fun e => K7.out (hne.out 7 (by decide) e), fun e => K8.out (hne.out 8 (by decide) e), fun e => K9.out (hne.out 9 (by decide) e), fun e => K10.out (hne.out 10 (by decide) e), fun e => K11.out (hne.out 11 (by decide) e), fun e => K12.out (hne.out 12 (by decide) e), fun e => K13.out (hne.out 13 (by decide) e), fun e => K14.out (hne.out 14 (by decide) e), hB⟩
            · cases ho
              have d6 := hd ⟨6, .guard⟩ (by simp) rfl
              obtain rfl := K6.out d6
              refine wpOp_step rfl (fun K hK => ?_)
              go_simp
              refine hK _ _ ⟨by simpa using hz, v33, v34, v35, v36, v37, v38, .bool false, .slice (some ⟨g, off, none⟩) n c, v41, v42, v43, v44, v45, v46, v47, rfl, ?_⟩
              exact ⟨fun e => K0.out (hne.out 0 (by decide) e), fun e => K1.out (hne.out 1 (by decide) e), fun e => K2.out (hne.out 2 (by decide) e), fun e => K3.out (hne.out 3 (by decide) e), fun e => K4.out (hne.out 4 (by decide) e), fun e => K5.out (hne.out 5 (by decide) e), fun e => K6.out (hne.out 6 (by decide) e), fun _ => rfl, fun e => K8.out (hne.out 8 (by decide) e), fun e => K9.out (hne.out 9 (by decide) e), fun e => K10.out (hne.out 10 (by decide) e), fun e => K11.out (hne.out 11 (by decide) e), fun e => K12.out (hne.out 12 (by decide) e), fun e => K13.out (hne.out 13 (by decide) e), fun e => K14.out (hne.out 14 (by decide) e), hB⟩
            · cases ho
              have d6 := hd ⟨6, .guard⟩ (by simp) rfl
              obtain rfl := K6.out d6
              refine wpOp_step rfl (fun K hK => ?_)
              go_simp
              refine hK _ _ ⟨by simpa using hz, v33, v34, v35, v36, v37, v38, .bool false, v40, .int .i64 ↑k, v42, v43, v44, v45, v46, v47, rfl, ?_⟩
              exact ⟨fun e => K0.out (hne.out 0 (by decide) e), fun e => K1.out (hne.out 1 (by decide) e), fun e => K2.out (hne.out 2 (by decide) e), fun e => K3.out (hne.out 3 (by decide) e), fun e => K4.out (hne.out 4 (by decide) e), fun e => K5.out (hne.out 5 (by decide) e), fun e => K6.out (hne.out 6 (by decide) e), fun e => K7.out (hne.out 7 (by decide) e), fun _ => rfl, fun e => K9.out (hne.out 9 (by decide) e), fun e => K10.out (hne.out 10 (by decide) e), fun e => K11.out (hne.out 11 (by decide) e), fun e => K12.out (hne.out 12 (by decide) e), fun e => K13.out (hne.out 13 (by decide) e), fun e => K14.out (hne.out 14 (by decide) e), hB⟩
            · cases ho
              have d7 := hd ⟨7, .data⟩ (by simp) rfl
              have d8 := hd ⟨8, .data⟩ (by simp) rfl
              have d6 := hd ⟨6, .guard⟩ (by simp) rfl
              obtain rfl := K7.out d7
              obtain rfl := K8.out d8
              obtain rfl := K6.out d6
              have hk0 : (0 : Int) ≤ (k : Int) := by omega
              have hk1 : (k : Int) < (n : Int) := by omega
              refine wpOp_step rfl (fun K hK => ?_)
              go_simp
              refine hK _ _ ⟨by simpa using hz, v33, v34, v35, v36, v37, v38, .bool false, .slice (some ⟨g, off, none⟩) n c, .int .i64 ↑k, .pointer (some ⟨g, off + k * 5, none⟩), v43, v44, v45, v46, v47, rfl, ?_⟩
              exact ⟨fun e => K0.out (hne.out 0 (by decide) e), fun e => K1.out (hne.out 1 (by decide) e), fun e => K2.out (hne.out 2 (by decide) e), fun e => K3.out (hne.out 3 (by decide) e), fun e => K4.out (hne.out 4 (by decide) e), fun e => K5.out (hne.out 5 (by decide) e), fun e => K6.out (hne.out 6 (by decide) e), fun e => K7.out (hne.out 7 (by decide) e), fun e => K8.out (hne.out 8 (by decide) e), fun _ => rfl, fun e => K10.out (hne.out 10 (by decide) e), fun e => K11.out (hne.out 11 (by decide) e), fun e => K12.out (hne.out 12 (by decide) e), fun e => K13.out (hne.out 13 (by decide) e), fun e => K14.out (hne.out 14 (by decide) e), hB⟩
            · cases ho
              have d9 := hd ⟨9, .data⟩ (by simp) rfl
              have d6 := hd ⟨6, .guard⟩ (by simp) rfl
              obtain rfl := K9.out d9
              obtain rfl := K6.out d6
              obtain ⟨_, e0, e1, e2, e3, e4, e5, e6, e7, e8, e9⟩ := hOk.out wx hB
              refine wpOp_step rfl (fun K hK => ?_)
              go_simp
              refine hK _ _ ⟨by simpa using hz, v33, v34, v35, v36, v37, v38, .bool false, v40, v41, .pointer (some ⟨g, off + k * 5, none⟩), .agg #[.int .i64 d.v, .int .i64 d.n, .int .i64 d.a, .int .i64 d.b, .int .i64 d.c], v44, v45, v46, v47, rfl, ?_⟩
              exact ⟨fun e => K0.out (hne.out 0 (by decide) e), fun e => K1.out (hne.out 1 (by decide) e), fun e => K2.out (hne.out 2 (by decide) e), fun e => K3.out (hne.out 3 (by decide) e), fun e => K4.out (hne.out 4 (by decide) e), fun e => K5.out (hne.out 5 (by decide) e), fun e => K6.out (hne.out 6 (by decide) e), fun e => K7.out (hne.out 7 (by decide) e), fun e => K8.out (hne.out 8 (by decide) e), fun e => K9.out (hne.out 9 (by decide) e), fun _ => rfl, fun e => K11.out (hne.out 11 (by decide) e), fun e => K12.out (hne.out 12 (by decide) e), fun e => K13.out (hne.out 13 (by decide) e), fun e => K14.out (hne.out 14 (by decide) e), hB⟩
            · cases ho
              have d10 := hd ⟨10, .data⟩ (by simp) rfl
              have d6 := hd ⟨6, .guard⟩ (by simp) rfl
              obtain rfl := K10.out d10
              obtain rfl := K6.out d6
              refine wpOp_step rfl (fun K hK => ?_)
              go_simp
              go_at_call 81
              refine (cL.out _).mono ?_
              rintro e w3 ⟨rfl, hb3⟩
              refine hK _ _ ⟨by simpa using hz, v33, v34, v35, v36, v37, v38, .bool false, v40, v41, v42, .agg #[.int .i64 d.v, .int .i64 d.n, .int .i64 d.a, .int .i64 d.b, .int .i64 d.c], .int .i64 d.lev, v45, v46, v47, rfl, ?_⟩
              exact ⟨fun e => K0.out (hne.out 0 (by decide) e), fun e => K1.out (hne.out 1 (by decide) e), fun e => K2.out (hne.out 2 (by decide) e), fun e => K3.out (hne.out 3 (by decide) e), fun e => K4.out (hne.out 4 (by decide) e), fun e => K5.out (hne.out 5 (by decide) e), fun e => K6.out (hne.out 6 (by decide) e), fun e => K7.out (hne.out 7 (by decide) e), fun e => K8.out (hne.out 8 (by decide) e), fun e => K9.out (hne.out 9 (by decide) e), fun e => K10.out (hne.out 10 (by decide) e), fun _ => rfl, fun e => K12.out (hne.out 12 (by decide) e), fun e => K13.out (hne.out 13 (by decide) e), fun e => K14.out (hne.out 14 (by decide) e), hB.trans (hb3.mono hB.size)⟩
            · cases ho
              have d6 := hd ⟨6, .guard⟩ (by simp) rfl
              obtain rfl := K6.out d6
              refine wpOp_step rfl (fun K hK => ?_)
              go_simp
              refine hK _ _ ⟨by simpa using hz, v33, v34, v35, v36, v37, v38, .bool false, v40, v41, v42, v43, v44, .pointer (some ⟨G, 0, none⟩), v46, v47, rfl, ?_⟩
              exact ⟨fun e => K0.out (hne.out 0 (by decide) e), fun e => K1.out (hne.out 1 (by decide) e), fun e => K2.out (hne.out 2 (by decide) e), fun e => K3.out (hne.out 3 (by decide) e), fun e => K4.out (hne.out 4 (by decide) e), fun e => K5.out (hne.out 5 (by decide) e), fun e => K6.out (hne.out 6 (by decide) e), fun e => K7.out (hne.out 7 (by decide) e), fun e => K8.out (hne.out 8 (by decide) e), fun e => K9.out (hne.out 9 (by decide) e), fun e => K10.out (hne.out 10 (by decide) e), fun e => K11.out (hne.out 11 (by decide) e), fun _ => rfl, fun e => K13.out (hne.out 13 (by decide) e), fun e => K14.out (hne.out 14 (by decide) e), hB⟩
            · cases ho
              have d12 := hd ⟨12, .data⟩ (by simp) rfl
              have d6 := hd ⟨6, .guard⟩ (by simp) rfl
              obtain rfl := K12.out d12
              obtain rfl := K6.out d6
              obtain ⟨_, e0, e1, e2, e3, e4, e5, e6, e7, e8, e9⟩ := hOk.out wx hB
              refine wpOp_step rfl (fun K hK => ?_)
              go_simp
              refine hK _ _ ⟨by simpa using hz, v33, v34, v35, v36, v37, v38, .bool false, v40, v41, v42, v43, v44, .pointer (some ⟨G, 0, none⟩), .int .i64 s.v, v47, rfl, ?_⟩
              exact ⟨fun e => K0.out (hne.out 0 (by decide) e), fun e => K1.out (hne.out 1 (by decide) e), fun e => K2.out (hne.out 2 (by decide) e), fun e => K3.out (hne.out 3 (by decide) e), fun e => K4.out (hne.out 4 (by decide) e), fun e => K5.out (hne.out 5 (by decide) e), fun e => K6.out (hne.out 6 (by decide) e), fun e => K7.out (hne.out 7 (by decide) e), fun e => K8.out (hne.out 8 (by decide) e), fun e => K9.out (hne.out 9 (by decide) e), fun e => K10.out (hne.out 10 (by decide) e), fun e => K11.out (hne.out 11 (by decide) e), fun e => K12.out (hne.out 12 (by decide) e), fun _ => rfl, fun e => K14.out (hne.out 14 (by decide) e), hB⟩
            · cases ho
              have d11 := hd ⟨11, .data⟩ (by simp) rfl
              have d13 := hd ⟨13, .data⟩ (by simp) rfl
              have d6 := hd ⟨6, .guard⟩ (by simp) rfl
              obtain rfl := K11.out d11
              obtain rfl := K13.out d13
              obtain rfl := K6.out d6
              refine wpOp_step rfl (fun K hK => ?_)
              go_simp
              refine hK _ _ ⟨by simpa using hz, v33, v34, v35, v36, v37, v38, .bool false, v40, v41, v42, v43, .int .i64 d.lev, v45, .int .i64 s.v, .bool (decide (d.lev ≤ s.v)), rfl, ?_⟩
              exact ⟨fun e => K0.out (hne.out 0 (by decide) e), fun e => K1.out (hne.out 1 (by decide) e), fun e => K2.out (hne.out 2 (by decide) e), fun e => K3.out (hne.out 3 (by decide) e), fun e => K4.out (hne.out 4 (by decide) e), fun e => K5.out (hne.out 5 (by decide) e), fun e => K6.out (hne.out 6 (by decide) e), fun e => K7.out (hne.out 7 (by decide) e), fun e => K8.out (hne.out 8 (by decide) e), fun e => K9.out (hne.out 9 (by decide) e), fun e => K10.out (hne.out 10 (by decide) e), fun e => K11.out (hne.out 11 (by decide) e), fun e => K12.out (hne.out 12 (by decide) e), fun e => K13.out (hne.out 13 (by decide) e), fun _ => rfl, hB⟩
          case hl =>
            rintro listed aq wx ⟨hz, v33, v34, v35, v36, v37, v38, v39, v40, v41, v42, v43, v44, v45, v46, v47, rfl, hII⟩ hall
            have K0 := Lib.hid hII.1
            have K1 := Lib.hid hII.2.1
            have K2 := Lib.hid hII.2.2.1
            have K3 := Lib.hid hII.2.2.2.1
            have K4 := Lib.hid hII.2.2.2.2.1
            have K5 := Lib.hid hII.2.2.2.2.2.1
            have K6 := Lib.hid hII.2.2.2.2.2.2.1
            have K7 := Lib.hid hII.2.2.2.2.2.2.2.1
            have K8 := Lib.hid hII.2.2.2.2.2.2.2.2.1
            have K9 := Lib.hid hII.2.2.2.2.2.2.2.2.2.1
            have K10 := Lib.hid hII.2.2.2.2.2.2.2.2.2.2.1
            have K11 := Lib.hid hII.2.2.2.2.2.2.2.2.2.2.2.1
            have K12 := Lib.hid hII.2.2.2.2.2.2.2.2.2.2.2.2.1
            have K13 := Lib.hid hII.2.2.2.2.2.2.2.2.2.2.2.2.2.1
            have K14 := Lib.hid hII.2.2.2.2.2.2.2.2.2.2.2.2.2.2.1
            have hB : Below wr.heap.size wr wx := hII.2.2.2.2.2.2.2.2.2.2.2.2.2.2.2
            clear hII
            obtain rfl := K0.out (hall 0 (by decide))
            obtain rfl := K1.out (hall 1 (by decide))
            obtain rfl := K2.out (hall 2 (by decide))
            obtain rfl := K3.out (hall 3 (by decide))
            obtain rfl := K4.out (hall 4 (by decide))
            obtain rfl := K5.out (hall 5 (by decide))
            obtain rfl := K6.out (hall 6 (by decide))
            obtain rfl := K7.out (hall 7 (by decide))
            obtain rfl := K8.out (hall 8 (by decide))
            obtain rfl := K9.out (hall 9 (by decide))
            obtain rfl := K10.out (hall 10 (by decide))
            obtain rfl := K11.out (hall 11 (by decide))
            obtain rfl := K12.out (hall 12 (by decide))
            obtain rfl := K13.out (hall 13 (by decide))
            obtain rfl := K14.out (hall 14 (by decide))
            clear hall K0 K1 K2 K3 K4 K5 K6 K7 K8 K9 K10 K11 K12 K13 K14
            refine wpOp_step rfl (fun K0 hK0 => ?_)
            go_simp
            refine hK0 _ _ ?_
            clear hK0
            have hBn := Lib.hid (hB2.out.trans (hB.mono (by omega)))
            have hLn := Lib.hid (hLr.out.trans (hB.mono hzr))
            clear hB
            cases hdd : decide (d.lev ≤ s.v)
            · have hT := Lib.hid (show kOk ds s.v s.a = true by rw [hKd, hdd]; rfl)
              go_wp2_with fail
              exact ⟨⟨hLn.out, .inr (.inl ⟨rfl, hT.out⟩)⟩, by simp [intOf]⟩
            · have hT : kOk ds s.v s.a = false := by rw [hKd, hdd]; rfl
              have hF := Lib.hid (show cOk s ds = false by rw [hR.out, hT, Bool.false_and, Bool.false_and])
              clear hT
              go_wp2_with fail
              go_ret
              exact ⟨ret_bool hF.out, by rw [hG]; exact hBn.out⟩
        · have hK : kOk ds s.v s.a = false := by
            unfold kOk
            rw [hlen, q3, Bool.false_and]
          rw [q3] at cI
          have hF := Lib.hid (show cOk s ds = false by rw [hR.out, hK, Bool.false_and, Bool.false_and])
          have hxc := hWr.out.cell
          clear hK q1 q3 hlen
          go_wp2_with fail
          go_quiet ((go_at_call 69; exact Calls.quiet_of_same ((cI.out _).mono fun _ _ h => ⟨h.1, h.2.symm⟩)))
          go_wp2_with fail
          go_ret
          exact ⟨ret_bool hF.out, by rw [hG]; exact below_drewN hB2.out _⟩
      · have hlen := hHr.out.1
        have cI := Lib.hid (fun wx => within_any s.b 0 ((n : Int) - 1) wx)
        rcases inB_cases s.b 0 ((n : Int) - 1) with ⟨q1, q2, q3⟩ | ⟨q1, q3⟩
        · obtain ⟨k, hk⟩ : ∃ k : Nat, s.b = k := ⟨_, (Int.toNat_of_nonneg q1).symm⟩
          obtain ⟨g, off, rfl, hg, hat⟩ := hHr.out.gt_ (k := k) (by omega)
          have hgz : g < wr.heap.size := by omega
          have hkn : k < n := by omega
          obtain ⟨c0, c1, c2, c3, c4⟩ := hat.open_
          have hKd : kOk ds s.v s.b = !(decide ((gt ds k).lev ≤ s.v)) := by
            unfold kOk
            rw [hlen, q3, Bool.true_and, hk, Int.toNat_natCast, ← decide_not]
            exact decide_eq_decide.2 (by omega)
          rw [q3, hk] at cI
          rw [hk] at i0 i1 i2
          generalize gt ds k = d at *
          have cL := Lib.hid (fun wx => levelOf_any d wx)
          have hKn : (s.b = (k : Int)) := hk
          have hOk := Lib.hid (fun (wx : World) (hx : Below wr.heap.size wr wx) => (show Below wr.heap.size wr wx ∧ wx.cell? ⟨G, 0, none⟩ = some (.int .i64 s.v) ∧ wx.cell? ⟨G, 1, none⟩ = some (.int .i64 s.n) ∧ wx.cell? ⟨G, 2, none⟩ = some (.int .i64 s.a) ∧ wx.cell? ⟨G, 3, none⟩ = some (.int .i64 s.b) ∧ wx.cell? ⟨G, 4, none⟩ = some (.int .i64 s.c) ∧ wx.cell? ⟨g, off + k * 5, none⟩ = some (.int .i64 d.v) ∧ wx.cell? ⟨g, off + k * 5 + 1, none⟩ = some (.int .i64 d.n) ∧ wx.cell? ⟨g, off + k * 5 + 2, none⟩ = some (.int .i64 d.a) ∧ wx.cell? ⟨g, off + k * 5 + 3, none⟩ = some (.int .i64 d.b) ∧ wx.cell? ⟨g, off + k * 5 + 4, none⟩ = some (.int .i64 d.c) from ⟨hx, (hWr.out.kept hx).cell 0, (hWr.out.kept hx).cell 1, (hWr.out.kept hx).cell 2, (hWr.out.kept hx).cell 3, (hWr.out.kept hx).cell 4, (hx.cell (p := ⟨g, off + k * 5, none⟩) (by exact hgz)).trans c0, (hx.cell (p := ⟨g, off + k * 5 + 1, none⟩) (by exact hgz)).trans c1, (hx.cell (p := ⟨g, off + k * 5 + 2, none⟩) (by exact hgz)).trans c2, (hx.cell (p := ⟨g, off + k * 5 + 3, none⟩) (by exact hgz)).trans c3, (hx.cell (p := ⟨g, off + k * 5 + 4, none⟩) (by exact hgz)).trans c4⟩))
          obtain ⟨_, e0, e1, e2, e3, e4, _⟩ := hOk.out wr (Below.refl _ _)
          clear c0 c1 c2 c3 c4 hat q1 q2 q3 hk
          go_wp2_with fail
          have hKh := Lib.hid hKn
          clear hKn
          refine wp_region_any (by kernel_rfl) ?_
          change wpAny _ _ _ _ _ _ _ (World.drew _)
          refine wpAny_last (n := 15) (I := fun listed aq wx => listed.size = 16 ∧ ∃ v33 v34 v35 v36 v37 v38 v39 v40 v41 v42 v43 v44 v45 v46 v47 : Value, aq = { tmps := #[.agg #[.int .i64 s.v, .int .i64 s.n, .int .i64 s.a, .int .i64 s.b, .int .i64 s.c], .slice (some ⟨g, off, none⟩) n c, .pointer (some ⟨G, 0, none⟩), undef, u4, undef, .int .i64 ↑k, .pointer (some ⟨G, 0, none⟩), .int .i64 s.v, .bool false, undef, undef, undef, undef, undef, undef, undef, undef, undef, .pointer (some ⟨G, 0, none⟩), .int .i64 s.v, .bool true, .bool false, .bool false, .pointer (some ⟨G, 1, none⟩), .int .i64 s.n, .bool false, .bool false, .pointer (some ⟨G, 2, none⟩), .agg #[.int .i64 s.a, .int .i64 s.b, .int .i64 s.c], .int .i64 1, .bool true, .int .i64 ↑k, v33, v34, v35, v36, v37, v38, v39, v40, v41, v42, v43, v44, v45, v46, v47, u48, u49], defers := [] } ∧ (listed.getD 0 false = true → v33 = .int .i64 ↑k) ∧ (listed.getD 1 false = true → v34 = .slice (some ⟨g, off, none⟩) n c) ∧ (listed.getD 2 false = true → v35 = .int .i64 (n : Int)) ∧ (listed.getD 3 false = true → v36 = .int .i64 ((n : Int) - 1)) ∧ (listed.getD 4 false = true → v37 = .bool true) ∧ (listed.getD 5 false = true → v38 = .bool false) ∧ (listed.getD 6 false = true → v39 = .bool false) ∧ (listed.getD 7 false = true → v40 = .slice (some ⟨g, off, none⟩) n c) ∧ (listed.getD 8 false = true → v41 = .int .i64 ↑k) ∧ (listed.getD 9 false = true → v42 = .pointer (some ⟨g, off + k * 5, none⟩)) ∧ (listed.getD 10 false = true → v43 = .agg #[.int .i64 d.v, .int .i64 d.n, .int .i64 d.a, .int .i64 d.b, .int .i64 d.c]) ∧ (listed.getD 11 false = true → v44 = .int .i64 d.lev) ∧ (listed.getD 12 false = true → v45 = .pointer (some ⟨G, 0, none⟩)) ∧ (listed.getD 13 false = true → v46 = .int .i64 s.v) ∧ (listed.getD 14 false = true → v47 = .bool (decide (d.lev ≤ s.v))) ∧ Below wr.heap.size wr wx) rfl (by kernel_rfl) (by kernel_rfl) ?hs ?hl _ _ _ ?st rfl (by decide) _ (by decide)
          case st =>
            refine ⟨rfl, u33, u34, u35, u36, u37, u38, u39, u40, u41, u42, u43, u44, u45, u46, u47, rfl, ?_, ?_, ?_, ?_, ?_, ?_, ?_, ?_, ?_, ?_, ?_, ?_, ?_, ?_, ?_, (Below.refl _ _).drew⟩ <;> (intro e; exact absurd e (by decide))
          case hs =>
            rintro listed aq wx ⟨hz, v33, v34, v35, v36, v37, v38, v39, v40, v41, v42, v43, v44, v45, v46, v47, rfl, hII⟩ i hin hi
            obtain ⟨h0, o, ho, hd⟩ := mem_ready.1 hi
            have K0 := Lib.hid hII.1
            have K1 := Lib.hid hII.2.1
            have K2 := Lib.hid hII.2.2.1
            have K3 := Lib.hid hII.2.2.2.1
            have K4 := Lib.hid hII.2.2.2.2.1
            have K5 := Lib.hid hII.2.2.2.2.2.1
            have K6 := Lib.hid hII.2.2.2.2.2.2.1
            have K7 := Lib.hid hII.2.2.2.2.2.2.2.1
            have K8 := Lib.hid hII.2.2.2.2.2.2.2.2.1
            have K9 := Lib.hid hII.2.2.2.2.2.2.2.2.2.1
            have K10 := Lib.hid hII.2.2.2.2.2.2.2.2.2.2.1
            have K11 := Lib.hid hII.2.2.2.2.2.2.2.2.2.2.2.1
            have K12 := Lib.hid hII.2.2.2.2.2.2.2.2.2.2.2.2.1
            have K13 := Lib.hid hII.2.2.2.2.2.2.2.2.2.2.2.2.2.1
            have K14 := Lib.hid hII.2.2.2.2.2.2.2.2.2.2.2.2.2.2.1
            have hB : Below wr.heap.size wr wx := hII.2.2.2.2.2.2.2.2.2.2.2.2.2.2.2
            have hne := Lib.hid (fun k (hk : i ≠ k) => @listed_ne listed i k hk)
            have h0f : listed.getD i false = false := by rw [Array.getD_eq_getD_getElem?, getD_false h0]; rfl
            clear hII hi h0
            rcases (by omega : i = 0 ∨ i = 1 ∨ i = 2 ∨ i = 3 ∨ i = 4 ∨ i = 5 ∨ i = 6 ∨ i = 7 ∨ i = 8 ∨ i = 9 ∨ i = 10 ∨ i = 11 ∨ i = 12 ∨ i = 13 ∨ i = 14) with rfl | rfl | rfl | rfl | rfl | rfl | rfl | rfl | rfl | rfl | rfl | rfl | rfl | rfl | rfl
            · cases ho
              refine wpOp_step rfl (fun K hK => ?_)
              go_simp
              refine hK _ _ ⟨by simpa using hz, .int .i64 ↑k, v34, v35, v36, v37, v38, v39, v40, v41, v42, v43, v44, v45, v46, v47, rfl, ?_⟩
              exact ⟨fun _ => rfl, fun e => K1.out (hne.out 1 (by decide) e), fun e => K2.out (hne.out 2 (by decide) e), fun e => K3.out (hne.out 3 (by decide) e), fun e => K4.out (hne.out 4 (by decide) e), fun e => K5.out (hne.out 5 (by decide) e), fun e => K6.out (hne.out 6 (by decide) e), fun e => K7.out (hne.out 7 (by decide) e), fun e => K8.out (hne.out 8 (by decide) e), fun e => K9.out (hne.out 9 (by decide) e), fun e => K10.out (hne.out 10 (by decide) e), fun e => K11.out (hne.out 11 (by decide) e), fun e => K12.out (hne.out 12 (by decide) e), fun e => K13.out (hne.out 13 (by decide) e), fun e => K14.out (hne.out 14 (by decide) e), hB⟩
            · cases ho
              refine wpOp_step rfl (fun K hK => ?_)
              go_simp
              refine hK _ _ ⟨by simpa using hz, v33, .slice (some ⟨g, off, none⟩) n c, v35, v36, v37, v38, v39, v40, v41, v42, v43, v44, v45, v46, v47, rfl, ?_⟩
              exact ⟨fun e => K0.out (hne.out 0 (by decide) e), fun _ => rfl, fun e => K2.out (hne.out 2 (by decide) e), fun e => K3.out (hne.out 3 (by decide) e), fun e => K4.out (hne.out 4 (by decide) e), fun e => K5.out (hne.out 5 (by decide) e), fun e => K6.out (hne.out 6 (by decide) e), fun e => K7.out (hne.out 7 (by decide) e), fun e => K8.out (hne.out 8 (by decide) e), fun e => K9.out (hne.out 9 (by decide) e), fun e => K10.out (hne.out 10 (by decide) e), fun e => K11.out (hne.out 11 (by decide) e), fun e => K12.out (hne.out 12 (by decide) e), fun e => K13.out (hne.out 13 (by decide) e), fun e => K14.out (hne.out 14 (by decide) e), hB⟩
            · cases ho
              have d1 := hd ⟨1, .data⟩ (by simp) rfl
              obtain rfl := K1.out d1
              refine wpOp_step rfl (fun K hK => ?_)
              go_simp
              refine hK _ _ ⟨by simpa using hz, v33, .slice (some ⟨g, off, none⟩) n c, .int .i64 (n : Int), v36, v37, v38, v39, v40, v41, v42, v43, v44, v45, v46, v47, rfl, ?_⟩
              exact ⟨fun e => K0.out (hne.out 0 (by decide) e), fun e => K1.out (hne.out 1 (by decide) e), fun _ => rfl, fun e => K3.out (hne.out 3 (by decide) e), fun e => K4.out (hne.out 4 (by decide) e), fun e => K5.out (hne.out 5 (by decide) e), fun e => K6.out (hne.out 6 (by decide) e), fun e => K7.out (hne.out 7 (by decide) e), fun e => K8.out (hne.out 8 (by decide) e), fun e => K9.out (hne.out 9 (by decide) e), fun e => K10.out (hne.out 10 (by decide) e), fun e => K11.out (hne.out 11 (by decide) e), fun e => K12.out (hne.out 12 (by decide) e), fun e => K13.out (hne.out 13 (by decide) e), fun e => K14.out (hne.out 14 (by decide) e), hB⟩
            · cases ho
              have d2 := hd ⟨2, .data⟩ (by simp) rfl
              obtain rfl := K2.out d2
              have hw1 : IntKind.i64.wrap ((n : Int) - 1) = (n : Int) - 1 := wrap_nat1 hn
              refine wpOp_step rfl (fun K hK => ?_)
              go_simp
              refine hK _ _ ⟨by simpa using hz, v33, v34, .int .i64 (n : Int), .int .i64 ((n : Int) - 1), v37, v38, v39, v40, v41, v42, v43, v44, v45, v46, v47, rfl, ?_⟩
              exact ⟨fun e => K0.out (hne.out 0 (by decide) e), fun e => K1.out (hne.out 1 (by decide) e), fun e => K2.out (hne.out 2 (by decide) e), fun _ => rfl, fun e => K4.out (hne.out 4 (by decide) e), fun e => K5.out (hne.out 5 (by decide) e), fun e => K6.out (hne.out 6 (by decide) e), fun e => K7.out (hne.out 7 (by decide) e), fun e => K8.out (hne.out 8 (by decide) e), fun e => K9.out (hne.out 9 (by decide) e), fun e => K10.out (hne.out 10 (by decide) e), fun e => K11.out (hne.out 11 (by decide) e), fun e => K12.out (hne.out 12 (by decide) e), fun e => K13.out (hne.out 13 (by decide) e), fun e => K14.out (hne.out 14 (by decide) e), hB⟩
            · cases ho
              have d0 := hd ⟨0, .data⟩ (by simp) rfl
              have d3 := hd ⟨3, .data⟩ (by simp) rfl
              obtain rfl := K0.out d0
              obtain rfl := K3.out d3
              refine wpOp_step rfl (fun K hK => ?_)
              go_simp
              go_at_call 69
              refine (cI.out _).mono ?_
              rintro e w3 ⟨rfl, rfl⟩
              refine hK _ _ ⟨by simpa using hz, .int .i64 ↑k, v34, v35, .int .i64 ((n : Int) - 1), .bool true, v38, v39, v40, v41, v42, v43, v44, v45, v46, v47, rfl, ?_⟩
              exact ⟨fun e => K0.out (hne.out 0 (by decide) e), fun e => K1.out (hne.out 1 (by decide) e), fun e => K2.out (hne.out 2 (by decide) e), fun e => K3.out (hne.out 3 (by decide) e), fun _ => rfl, fun e => K5.out (hne.out 5 (by decide) e), fun e => K6.out (hne.out 6 (by decide) e), fun e => K7.out (hne.out 7 (by decide) e), fun e => K8.out (hne.out 8 (by decide) e), fun e => K9.out (hne.out 9 (by decide) e), fun e => K10.out (hne.out 10 (by decide) e), fun e => K11.out (hne.out 11 (by decide) e), fun e => K12.out (hne.out 12 (by decide) e), fun e => K13.out (hne.out 13 (by decide) e), fun e => K14.out (hne.out 14 (by decide) e), hB⟩
            · cases ho
              have d4 := hd ⟨4, .data⟩ (by simp) rfl
              obtain rfl := K4.out d4
              refine wpOp_step rfl (fun K hK => ?_)
              go_simp
              refine hK _ _ ⟨by simpa using hz, v33, v34, v35, v36, .bool true, .bool false, v39, v40, v41, v42, v43, v44, v45, v46, v47, rfl, ?_⟩
              exact ⟨fun e => K0.out (hne.out 0 (by decide) e), fun e => K1.out (hne.out 1 (by decide) e), fun e => K2.out (hne.out 2 (by decide) e), fun e => K3.out (hne.out 3 (by decide) e), fun e => K4.out (hne.out 4 (by decide) e), fun _ => rfl, fun e => K6.out (hne.out 6 (by decide) e), fun e => K7.out (hne.out 7 (by decide) e), fun e => K8.out (hne.out 8 (by decide) e), fun e => K9.out (hne.out 9 (by decide) e), fun e => K10.out (hne.out 10 (by decide) e), fun e => K11.out (hne.out 11 (by decide) e), fun e => K12.out (hne.out 12 (by decide) e), fun e => K13.out (hne.out 13 (by decide) e), fun e => K14.out (hne.out 14 (by decide) e), hB⟩
            · cases ho
              have d5 := hd ⟨5, .data⟩ (by simp) rfl
              obtain rfl := K5.out d5
              refine wpOp_step rfl (fun K hK => ?_)
              go_simp
              refine hK _ _ ⟨by simpa using hz, v33, v34, v35, v36, v37, .bool false, .bool false, v40, v41, v42, v43, v44, v45, v46, v47, rfl, ?_⟩
              exact ⟨fun e => K0.out (hne.out 0 (by decide) e), fun e => K1.out (hne.out 1 (by decide) e), fun e => K2.out (hne.out 2 (by decide) e), fun e => K3.out (hne.out 3 (by decide) e), fun e => K4.out (hne.out 4 (by decide) e), fun e => K5.out (hne.out 5 (by decide) e), fun _ => rfl, fun e => K7.out (hne.out 7 (by decide) e), fun e => K8.out (hne.out 8 (by decide) e), fun e => K9.out (hne.out 9 (by decide) e), fun e => K10.out (hne.out 10 (by decide) e), fun e => K11.out (hne.out 11 (by decide) e), fun e => K12.out (hne.out 12 (by decide) e), fun e => K13.out (hne.out 13 (by decide) e), fun e => K14.out (hne.out 14 (by decide) e), hB⟩
            · cases ho
              have d6 := hd ⟨6, .guard⟩ (by simp) rfl
              obtain rfl := K6.out d6
              refine wpOp_step rfl (fun K hK => ?_)
              go_simp
              refine hK _ _ ⟨by simpa using hz, v33, v34, v35, v36, v37, v38, .bool false, .slice (some ⟨g, off, none⟩) n c, v41, v42, v43, v44, v45, v46, v47, rfl, ?_⟩
              exact ⟨fun e => K0.out (hne.out 0 (by decide) e), fun e => K1.out (hne.out 1 (by decide) e), fun e => K2.out (hne.out 2 (by decide) e), fun e => K3.out (hne.out 3 (by decide) e), fun e => K4.out (hne.out 4 (by decide) e), fun e => K5.out (hne.out 5 (by decide) e), fun e => K6.out (hne.out 6 (by decide) e), fun _ => rfl, fun e => K8.out (hne.out 8 (by decide) e), fun e => K9.out (hne.out 9 (by decide) e), fun e => K10.out (hne.out 10 (by decide) e), fun e => K11.out (hne.out 11 (by decide) e), fun e => K12.out (hne.out 12 (by decide) e), fun e => K13.out (hne.out 13 (by decide) e), fun e => K14.out (hne.out 14 (by decide) e), hB⟩
            · cases ho
              have d6 := hd ⟨6, .guard⟩ (by simp) rfl
              obtain rfl := K6.out d6
              refine wpOp_step rfl (fun K hK => ?_)
              go_simp
              refine hK _ _ ⟨by simpa using hz, v33, v34, v35, v36, v37, v38, .bool false, v40, .int .i64 ↑k, v42, v43, v44, v45, v46, v47, rfl, ?_⟩
              exact ⟨fun e => K0.out (hne.out 0 (by decide) e), fun e => K1.out (hne.out 1 (by decide) e), fun e => K2.out (hne.out 2 (by decide) e), fun e => K3.out (hne.out 3 (by decide) e), fun e => K4.out (hne.out 4 (by decide) e), fun e => K5.out (hne.out 5 (by decide) e), fun e => K6.out (hne.out 6 (by decide) e), fun e => K7.out (hne.out 7 (by decide) e), fun _ => rfl, fun e => K9.out (hne.out 9 (by decide) e), fun e => K10.out (hne.out 10 (by decide) e), fun e => K11.out (hne.out 11 (by decide) e), fun e => K12.out (hne.out 12 (by decide) e), fun e => K13.out (hne.out 13 (by decide) e), fun e => K14.out (hne.out 14 (by decide) e), hB⟩
            · cases ho
              have d7 := hd ⟨7, .data⟩ (by simp) rfl
              have d8 := hd ⟨8, .data⟩ (by simp) rfl
              have d6 := hd ⟨6, .guard⟩ (by simp) rfl
              obtain rfl := K7.out d7
              obtain rfl := K8.out d8
              obtain rfl := K6.out d6
              have hk0 : (0 : Int) ≤ (k : Int) := by omega
              have hk1 : (k : Int) < (n : Int) := by omega
              refine wpOp_step rfl (fun K hK => ?_)
              go_simp
              refine hK _ _ ⟨by simpa using hz, v33, v34, v35, v36, v37, v38, .bool false, .slice (some ⟨g, off, none⟩) n c, .int .i64 ↑k, .pointer (some ⟨g, off + k * 5, none⟩), v43, v44, v45, v46, v47, rfl, ?_⟩
              exact ⟨fun e => K0.out (hne.out 0 (by decide) e), fun e => K1.out (hne.out 1 (by decide) e), fun e => K2.out (hne.out 2 (by decide) e), fun e => K3.out (hne.out 3 (by decide) e), fun e => K4.out (hne.out 4 (by decide) e), fun e => K5.out (hne.out 5 (by decide) e), fun e => K6.out (hne.out 6 (by decide) e), fun e => K7.out (hne.out 7 (by decide) e), fun e => K8.out (hne.out 8 (by decide) e), fun _ => rfl, fun e => K10.out (hne.out 10 (by decide) e), fun e => K11.out (hne.out 11 (by decide) e), fun e => K12.out (hne.out 12 (by decide) e), fun e => K13.out (hne.out 13 (by decide) e), fun e => K14.out (hne.out 14 (by decide) e), hB⟩
            · cases ho
              have d9 := hd ⟨9, .data⟩ (by simp) rfl
              have d6 := hd ⟨6, .guard⟩ (by simp) rfl
              obtain rfl := K9.out d9
              obtain rfl := K6.out d6
              obtain ⟨_, e0, e1, e2, e3, e4, e5, e6, e7, e8, e9⟩ := hOk.out wx hB
              refine wpOp_step rfl (fun K hK => ?_)
              go_simp
              refine hK _ _ ⟨by simpa using hz, v33, v34, v35, v36, v37, v38, .bool false, v40, v41, .pointer (some ⟨g, off + k * 5, none⟩), .agg #[.int .i64 d.v, .int .i64 d.n, .int .i64 d.a, .int .i64 d.b, .int .i64 d.c], v44, v45, v46, v47, rfl, ?_⟩
              exact ⟨fun e => K0.out (hne.out 0 (by decide) e), fun e => K1.out (hne.out 1 (by decide) e), fun e => K2.out (hne.out 2 (by decide) e), fun e => K3.out (hne.out 3 (by decide) e), fun e => K4.out (hne.out 4 (by decide) e), fun e => K5.out (hne.out 5 (by decide) e), fun e => K6.out (hne.out 6 (by decide) e), fun e => K7.out (hne.out 7 (by decide) e), fun e => K8.out (hne.out 8 (by decide) e), fun e => K9.out (hne.out 9 (by decide) e), fun _ => rfl, fun e => K11.out (hne.out 11 (by decide) e), fun e => K12.out (hne.out 12 (by decide) e), fun e => K13.out (hne.out 13 (by decide) e), fun e => K14.out (hne.out 14 (by decide) e), hB⟩
            · cases ho
              have d10 := hd ⟨10, .data⟩ (by simp) rfl
              have d6 := hd ⟨6, .guard⟩ (by simp) rfl
              obtain rfl := K10.out d10
              obtain rfl := K6.out d6
              refine wpOp_step rfl (fun K hK => ?_)
              go_simp
              go_at_call 81
              refine (cL.out _).mono ?_
              rintro e w3 ⟨rfl, hb3⟩
              refine hK _ _ ⟨by simpa using hz, v33, v34, v35, v36, v37, v38, .bool false, v40, v41, v42, .agg #[.int .i64 d.v, .int .i64 d.n, .int .i64 d.a, .int .i64 d.b, .int .i64 d.c], .int .i64 d.lev, v45, v46, v47, rfl, ?_⟩
              exact ⟨fun e => K0.out (hne.out 0 (by decide) e), fun e => K1.out (hne.out 1 (by decide) e), fun e => K2.out (hne.out 2 (by decide) e), fun e => K3.out (hne.out 3 (by decide) e), fun e => K4.out (hne.out 4 (by decide) e), fun e => K5.out (hne.out 5 (by decide) e), fun e => K6.out (hne.out 6 (by decide) e), fun e => K7.out (hne.out 7 (by decide) e), fun e => K8.out (hne.out 8 (by decide) e), fun e => K9.out (hne.out 9 (by decide) e), fun e => K10.out (hne.out 10 (by decide) e), fun _ => rfl, fun e => K12.out (hne.out 12 (by decide) e), fun e => K13.out (hne.out 13 (by decide) e), fun e => K14.out (hne.out 14 (by decide) e), hB.trans (hb3.mono hB.size)⟩
            · cases ho
              have d6 := hd ⟨6, .guard⟩ (by simp) rfl
              obtain rfl := K6.out d6
              refine wpOp_step rfl (fun K hK => ?_)
              go_simp
              refine hK _ _ ⟨by simpa using hz, v33, v34, v35, v36, v37, v38, .bool false, v40, v41, v42, v43, v44, .pointer (some ⟨G, 0, none⟩), v46, v47, rfl, ?_⟩
              exact ⟨fun e => K0.out (hne.out 0 (by decide) e), fun e => K1.out (hne.out 1 (by decide) e), fun e => K2.out (hne.out 2 (by decide) e), fun e => K3.out (hne.out 3 (by decide) e), fun e => K4.out (hne.out 4 (by decide) e), fun e => K5.out (hne.out 5 (by decide) e), fun e => K6.out (hne.out 6 (by decide) e), fun e => K7.out (hne.out 7 (by decide) e), fun e => K8.out (hne.out 8 (by decide) e), fun e => K9.out (hne.out 9 (by decide) e), fun e => K10.out (hne.out 10 (by decide) e), fun e => K11.out (hne.out 11 (by decide) e), fun _ => rfl, fun e => K13.out (hne.out 13 (by decide) e), fun e => K14.out (hne.out 14 (by decide) e), hB⟩
            · cases ho
              have d12 := hd ⟨12, .data⟩ (by simp) rfl
              have d6 := hd ⟨6, .guard⟩ (by simp) rfl
              obtain rfl := K12.out d12
              obtain rfl := K6.out d6
              obtain ⟨_, e0, e1, e2, e3, e4, e5, e6, e7, e8, e9⟩ := hOk.out wx hB
              refine wpOp_step rfl (fun K hK => ?_)
              go_simp
              refine hK _ _ ⟨by simpa using hz, v33, v34, v35, v36, v37, v38, .bool false, v40, v41, v42, v43, v44, .pointer (some ⟨G, 0, none⟩), .int .i64 s.v, v47, rfl, ?_⟩
              exact ⟨fun e => K0.out (hne.out 0 (by decide) e), fun e => K1.out (hne.out 1 (by decide) e), fun e => K2.out (hne.out 2 (by decide) e), fun e => K3.out (hne.out 3 (by decide) e), fun e => K4.out (hne.out 4 (by decide) e), fun e => K5.out (hne.out 5 (by decide) e), fun e => K6.out (hne.out 6 (by decide) e), fun e => K7.out (hne.out 7 (by decide) e), fun e => K8.out (hne.out 8 (by decide) e), fun e => K9.out (hne.out 9 (by decide) e), fun e => K10.out (hne.out 10 (by decide) e), fun e => K11.out (hne.out 11 (by decide) e), fun e => K12.out (hne.out 12 (by decide) e), fun _ => rfl, fun e => K14.out (hne.out 14 (by decide) e), hB⟩
            · cases ho
              have d11 := hd ⟨11, .data⟩ (by simp) rfl
              have d13 := hd ⟨13, .data⟩ (by simp) rfl
              have d6 := hd ⟨6, .guard⟩ (by simp) rfl
              obtain rfl := K11.out d11
              obtain rfl := K13.out d13
              obtain rfl := K6.out d6
              refine wpOp_step rfl (fun K hK => ?_)
              go_simp
              refine hK _ _ ⟨by simpa using hz, v33, v34, v35, v36, v37, v38, .bool false, v40, v41, v42, v43, .int .i64 d.lev, v45, .int .i64 s.v, .bool (decide (d.lev ≤ s.v)), rfl, ?_⟩
              exact ⟨fun e => K0.out (hne.out 0 (by decide) e), fun e => K1.out (hne.out 1 (by decide) e), fun e => K2.out (hne.out 2 (by decide) e), fun e => K3.out (hne.out 3 (by decide) e), fun e => K4.out (hne.out 4 (by decide) e), fun e => K5.out (hne.out 5 (by decide) e), fun e => K6.out (hne.out 6 (by decide) e), fun e => K7.out (hne.out 7 (by decide) e), fun e => K8.out (hne.out 8 (by decide) e), fun e => K9.out (hne.out 9 (by decide) e), fun e => K10.out (hne.out 10 (by decide) e), fun e => K11.out (hne.out 11 (by decide) e), fun e => K12.out (hne.out 12 (by decide) e), fun e => K13.out (hne.out 13 (by decide) e), fun _ => rfl, hB⟩
          case hl =>
            rintro listed aq wx ⟨hz, v33, v34, v35, v36, v37, v38, v39, v40, v41, v42, v43, v44, v45, v46, v47, rfl, hII⟩ hall
            have K0 := Lib.hid hII.1
            have K1 := Lib.hid hII.2.1
            have K2 := Lib.hid hII.2.2.1
            have K3 := Lib.hid hII.2.2.2.1
            have K4 := Lib.hid hII.2.2.2.2.1
            have K5 := Lib.hid hII.2.2.2.2.2.1
            have K6 := Lib.hid hII.2.2.2.2.2.2.1
            have K7 := Lib.hid hII.2.2.2.2.2.2.2.1
            have K8 := Lib.hid hII.2.2.2.2.2.2.2.2.1
            have K9 := Lib.hid hII.2.2.2.2.2.2.2.2.2.1
            have K10 := Lib.hid hII.2.2.2.2.2.2.2.2.2.2.1
            have K11 := Lib.hid hII.2.2.2.2.2.2.2.2.2.2.2.1
            have K12 := Lib.hid hII.2.2.2.2.2.2.2.2.2.2.2.2.1
            have K13 := Lib.hid hII.2.2.2.2.2.2.2.2.2.2.2.2.2.1
            have K14 := Lib.hid hII.2.2.2.2.2.2.2.2.2.2.2.2.2.2.1
            have hB : Below wr.heap.size wr wx := hII.2.2.2.2.2.2.2.2.2.2.2.2.2.2.2
            clear hII
            obtain rfl := K0.out (hall 0 (by decide))
            obtain rfl := K1.out (hall 1 (by decide))
            obtain rfl := K2.out (hall 2 (by decide))
            obtain rfl := K3.out (hall 3 (by decide))
            obtain rfl := K4.out (hall 4 (by decide))
            obtain rfl := K5.out (hall 5 (by decide))
            obtain rfl := K6.out (hall 6 (by decide))
            obtain rfl := K7.out (hall 7 (by decide))
            obtain rfl := K8.out (hall 8 (by decide))
            obtain rfl := K9.out (hall 9 (by decide))
            obtain rfl := K10.out (hall 10 (by decide))
            obtain rfl := K11.out (hall 11 (by decide))
            obtain rfl := K12.out (hall 12 (by decide))
            obtain rfl := K13.out (hall 13 (by decide))
            obtain rfl := K14.out (hall 14 (by decide))
            clear hall K0 K1 K2 K3 K4 K5 K6 K7 K8 K9 K10 K11 K12 K13 K14
            refine wpOp_step rfl (fun K0 hK0 => ?_)
            go_simp
            refine hK0 _ _ ?_
            clear hK0
            have hBn := Lib.hid (hB2.out.trans (hB.mono (by omega)))
            have hLn := Lib.hid (hLr.out.trans (hB.mono hzr))
            clear hB
            cases hdd : decide (d.lev ≤ s.v)
            · have hT := Lib.hid (show kOk ds s.v s.b = true by rw [hKd, hdd]; rfl)
              go_wp2_with fail
              exact ⟨⟨hLn.out, .inr (.inr (.inl ⟨rfl, ha, hT.out⟩))⟩, by simp [intOf]⟩
            · have hT : kOk ds s.v s.b = false := by rw [hKd, hdd]; rfl
              have hF := Lib.hid (show cOk s ds = false by rw [hR.out, hT, Bool.and_false, Bool.false_and])
              clear hT
              go_wp2_with fail
              go_ret
              exact ⟨ret_bool hF.out, by rw [hG]; exact hBn.out⟩
        · have hK : kOk ds s.v s.b = false := by
            unfold kOk
            rw [hlen, q3, Bool.false_and]
          rw [q3] at cI
          have hF := Lib.hid (show cOk s ds = false by rw [hR.out, hK, Bool.and_false, Bool.false_and])
          have hxc := hWr.out.cell
          clear hK q1 q3 hlen
          go_wp2_with fail
          go_quiet ((go_at_call 69; exact Calls.quiet_of_same ((cI.out _).mono fun _ _ h => ⟨h.1, h.2.symm⟩)))
          go_wp2_with fail
          go_ret
          exact ⟨ret_bool hF.out, by rw [hG]; exact below_drewN hB2.out _⟩
      · have hlen := hHr.out.1
        have cI := Lib.hid (fun wx => within_any s.c 0 ((n : Int) - 1) wx)
        rcases inB_cases s.c 0 ((n : Int) - 1) with ⟨q1, q2, q3⟩ | ⟨q1, q3⟩
        · obtain ⟨k, hk⟩ : ∃ k : Nat, s.c = k := ⟨_, (Int.toNat_of_nonneg q1).symm⟩
          obtain ⟨g, off, rfl, hg, hat⟩ := hHr.out.gt_ (k := k) (by omega)
          have hgz : g < wr.heap.size := by omega
          have hkn : k < n := by omega
          obtain ⟨c0, c1, c2, c3, c4⟩ := hat.open_
          have hKd : kOk ds s.v s.c = !(decide ((gt ds k).lev ≤ s.v)) := by
            unfold kOk
            rw [hlen, q3, Bool.true_and, hk, Int.toNat_natCast, ← decide_not]
            exact decide_eq_decide.2 (by omega)
          rw [q3, hk] at cI
          rw [hk] at i0 i1 i2
          generalize gt ds k = d at *
          have cL := Lib.hid (fun wx => levelOf_any d wx)
          have hKn : (s.c = (k : Int)) := hk
          have hOk := Lib.hid (fun (wx : World) (hx : Below wr.heap.size wr wx) => (show Below wr.heap.size wr wx ∧ wx.cell? ⟨G, 0, none⟩ = some (.int .i64 s.v) ∧ wx.cell? ⟨G, 1, none⟩ = some (.int .i64 s.n) ∧ wx.cell? ⟨G, 2, none⟩ = some (.int .i64 s.a) ∧ wx.cell? ⟨G, 3, none⟩ = some (.int .i64 s.b) ∧ wx.cell? ⟨G, 4, none⟩ = some (.int .i64 s.c) ∧ wx.cell? ⟨g, off + k * 5, none⟩ = some (.int .i64 d.v) ∧ wx.cell? ⟨g, off + k * 5 + 1, none⟩ = some (.int .i64 d.n) ∧ wx.cell? ⟨g, off + k * 5 + 2, none⟩ = some (.int .i64 d.a) ∧ wx.cell? ⟨g, off + k * 5 + 3, none⟩ = some (.int .i64 d.b) ∧ wx.cell? ⟨g, off + k * 5 + 4, none⟩ = some (.int .i64 d.c) from ⟨hx, (hWr.out.kept hx).cell 0, (hWr.out.kept hx).cell 1, (hWr.out.kept hx).cell 2, (hWr.out.kept hx).cell 3, (hWr.out.kept hx).cell 4, (hx.cell (p := ⟨g, off + k * 5, none⟩) (by exact hgz)).trans c0, (hx.cell (p := ⟨g, off + k * 5 + 1, none⟩) (by exact hgz)).trans c1, (hx.cell (p := ⟨g, off + k * 5 + 2, none⟩) (by exact hgz)).trans c2, (hx.cell (p := ⟨g, off + k * 5 + 3, none⟩) (by exact hgz)).trans c3, (hx.cell (p := ⟨g, off + k * 5 + 4, none⟩) (by exact hgz)).trans c4⟩))
          obtain ⟨_, e0, e1, e2, e3, e4, _⟩ := hOk.out wr (Below.refl _ _)
          clear c0 c1 c2 c3 c4 hat q1 q2 q3 hk
          go_wp2_with fail
          have hKh := Lib.hid hKn
          clear hKn
          refine wp_region_any (by kernel_rfl) ?_
          change wpAny _ _ _ _ _ _ _ (World.drew _)
          refine wpAny_last (n := 15) (I := fun listed aq wx => listed.size = 16 ∧ ∃ v33 v34 v35 v36 v37 v38 v39 v40 v41 v42 v43 v44 v45 v46 v47 : Value, aq = { tmps := #[.agg #[.int .i64 s.v, .int .i64 s.n, .int .i64 s.a, .int .i64 s.b, .int .i64 s.c], .slice (some ⟨g, off, none⟩) n c, .pointer (some ⟨G, 0, none⟩), undef, u4, undef, .int .i64 ↑k, .pointer (some ⟨G, 0, none⟩), .int .i64 s.v, .bool false, undef, undef, undef, undef, undef, undef, undef, undef, undef, .pointer (some ⟨G, 0, none⟩), .int .i64 s.v, .bool true, .bool false, .bool false, .pointer (some ⟨G, 1, none⟩), .int .i64 s.n, .bool false, .bool false, .pointer (some ⟨G, 2, none⟩), .agg #[.int .i64 s.a, .int .i64 s.b, .int .i64 s.c], .int .i64 2, .bool true, .int .i64 ↑k, v33, v34, v35, v36, v37, v38, v39, v40, v41, v42, v43, v44, v45, v46, v47, u48, u49], defers := [] } ∧ (listed.getD 0 false = true → v33 = .int .i64 ↑k) ∧ (listed.getD 1 false = true → v34 = .slice (some ⟨g, off, none⟩) n c) ∧ (listed.getD 2 false = true → v35 = .int .i64 (n : Int)) ∧ (listed.getD 3 false = true → v36 = .int .i64 ((n : Int) - 1)) ∧ (listed.getD 4 false = true → v37 = .bool true) ∧ (listed.getD 5 false = true → v38 = .bool false) ∧ (listed.getD 6 false = true → v39 = .bool false) ∧ (listed.getD 7 false = true → v40 = .slice (some ⟨g, off, none⟩) n c) ∧ (listed.getD 8 false = true → v41 = .int .i64 ↑k) ∧ (listed.getD 9 false = true → v42 = .pointer (some ⟨g, off + k * 5, none⟩)) ∧ (listed.getD 10 false = true → v43 = .agg #[.int .i64 d.v, .int .i64 d.n, .int .i64 d.a, .int .i64 d.b, .int .i64 d.c]) ∧ (listed.getD 11 false = true → v44 = .int .i64 d.lev) ∧ (listed.getD 12 false = true → v45 = .pointer (some ⟨G, 0, none⟩)) ∧ (listed.getD 13 false = true → v46 = .int .i64 s.v) ∧ (listed.getD 14 false = true → v47 = .bool (decide (d.lev ≤ s.v))) ∧ Below wr.heap.size wr wx) rfl (by kernel_rfl) (by kernel_rfl) ?hs ?hl _ _ _ ?st rfl (by decide) _ (by decide)
          case st =>
            refine ⟨rfl, u33, u34, u35, u36, u37, u38, u39, u40, u41, u42, u43, u44, u45, u46, u47, rfl, ?_, ?_, ?_, ?_, ?_, ?_, ?_, ?_, ?_, ?_, ?_, ?_, ?_, ?_, ?_, (Below.refl _ _).drew⟩ <;> (intro e; exact absurd e (by decide))
          case hs =>
            rintro listed aq wx ⟨hz, v33, v34, v35, v36, v37, v38, v39, v40, v41, v42, v43, v44, v45, v46, v47, rfl, hII⟩ i hin hi
            obtain ⟨h0, o, ho, hd⟩ := mem_ready.1 hi
            have K0 := Lib.hid hII.1
            have K1 := Lib.hid hII.2.1
            have K2 := Lib.hid hII.2.2.1
            have K3 := Lib.hid hII.2.2.2.1
            have K4 := Lib.hid hII.2.2.2.2.1
            have K5 := Lib.hid hII.2.2.2.2.2.1
            have K6 := Lib.hid hII.2.2.2.2.2.2.1
            have K7 := Lib.hid hII.2.2.2.2.2.2.2.1
            have K8 := Lib.hid hII.2.2.2.2.2.2.2.2.1
            have K9 := Lib.hid hII.2.2.2.2.2.2.2.2.2.1
            have K10 := Lib.hid hII.2.2.2.2.2.2.2.2.2.2.1
            have K11 := Lib.hid hII.2.2.2.2.2.2.2.2.2.2.2.1
            have K12 := Lib.hid hII.2.2.2.2.2.2.2.2.2.2.2.2.1
            have K13 := Lib.hid hII.2.2.2.2.2.2.2.2.2.2.2.2.2.1
            have K14 := Lib.hid hII.2.2.2.2.2.2.2.2.2.2.2.2.2.2.1
            have hB : Below wr.heap.size wr wx := hII.2.2.2.2.2.2.2.2.2.2.2.2.2.2.2
            have hne := Lib.hid (fun k (hk : i ≠ k) => @listed_ne listed i k hk)
            have h0f : listed.getD i false = false := by rw [Array.getD_eq_getD_getElem?, getD_false h0]; rfl
            clear hII hi h0
            rcases (by omega : i = 0 ∨ i = 1 ∨ i = 2 ∨ i = 3 ∨ i = 4 ∨ i = 5 ∨ i = 6 ∨ i = 7 ∨ i = 8 ∨ i = 9 ∨ i = 10 ∨ i = 11 ∨ i = 12 ∨ i = 13 ∨ i = 14) with rfl | rfl | rfl | rfl | rfl | rfl | rfl | rfl | rfl | rfl | rfl | rfl | rfl | rfl | rfl
            · cases ho
              refine wpOp_step rfl (fun K hK => ?_)
              go_simp
              refine hK _ _ ⟨by simpa using hz, .int .i64 ↑k, v34, v35, v36, v37, v38, v39, v40, v41, v42, v43, v44, v45, v46, v47, rfl, ?_⟩
              exact ⟨fun _ => rfl, fun e => K1.out (hne.out 1 (by decide) e), fun e => K2.out (hne.out 2 (by decide) e), fun e => K3.out (hne.out 3 (by decide) e), fun e => K4.out (hne.out 4 (by decide) e), fun e => K5.out (hne.out 5 (by decide) e), fun e => K6.out (hne.out 6 (by decide) e), fun e => K7.out (hne.out 7 (by decide) e), fun e => K8.out (hne.out 8 (by decide) e), fun e => K9.out (hne.out 9 (by decide) e), fun e => K10.out (hne.out 10 (by decide) e), fun e => K11.out (hne.out 11 (by decide) e), fun e => K12.out (hne.out 12 (by decide) e), fun e => K13.out (hne.out 13 (by decide) e), fun e => K14.out (hne.out 14 (by decide) e), hB⟩
            · cases ho
              refine wpOp_step rfl (fun K hK => ?_)
              go_simp
              refine hK _ _ ⟨by simpa using hz, v33, .slice (some ⟨g, off, none⟩) n c, v35, v36, v37, v38, v39, v40, v41, v42, v43, v44, v45, v46, v47, rfl, ?_⟩
              exact ⟨fun e => K0.out (hne.out 0 (by decide) e), fun _ => rfl, fun e => K2.out (hne.out 2 (by decide) e), fun e => K3.out (hne.out 3 (by decide) e), fun e => K4.out (hne.out 4 (by decide) e), fun e => K5.out (hne.out 5 (by decide) e), fun e => K6.out (hne.out 6 (by decide) e), fun e => K7.out (hne.out 7 (by decide) e), fun e => K8.out (hne.out 8 (by decide) e), fun e => K9.out (hne.out 9 (by decide) e), fun e => K10.out (hne.out 10 (by decide) e), fun e => K11.out (hne.out 11 (by decide) e), fun e => K12.out (hne.out 12 (by decide) e), fun e => K13.out (hne.out 13 (by decide) e), fun e => K14.out (hne.out 14 (by decide) e), hB⟩
            · cases ho
              have d1 := hd ⟨1, .data⟩ (by simp) rfl
              obtain rfl := K1.out d1
              refine wpOp_step rfl (fun K hK => ?_)
              go_simp
              refine hK _ _ ⟨by simpa using hz, v33, .slice (some ⟨g, off, none⟩) n c, .int .i64 (n : Int), v36, v37, v38, v39, v40, v41, v42, v43, v44, v45, v46, v47, rfl, ?_⟩
              exact ⟨fun e => K0.out (hne.out 0 (by decide) e), fun e => K1.out (hne.out 1 (by decide) e), fun _ => rfl, fun e => K3.out (hne.out 3 (by decide) e), fun e => K4.out (hne.out 4 (by decide) e), fun e => K5.out (hne.out 5 (by decide) e), fun e => K6.out (hne.out 6 (by decide) e), fun e => K7.out (hne.out 7 (by decide) e), fun e => K8.out (hne.out 8 (by decide) e), fun e => K9.out (hne.out 9 (by decide) e), fun e => K10.out (hne.out 10 (by decide) e), fun e => K11.out (hne.out 11 (by decide) e), fun e => K12.out (hne.out 12 (by decide) e), fun e => K13.out (hne.out 13 (by decide) e), fun e => K14.out (hne.out 14 (by decide) e), hB⟩
            · cases ho
              have d2 := hd ⟨2, .data⟩ (by simp) rfl
              obtain rfl := K2.out d2
              have hw1 : IntKind.i64.wrap ((n : Int) - 1) = (n : Int) - 1 := wrap_nat1 hn
              refine wpOp_step rfl (fun K hK => ?_)
              go_simp
              refine hK _ _ ⟨by simpa using hz, v33, v34, .int .i64 (n : Int), .int .i64 ((n : Int) - 1), v37, v38, v39, v40, v41, v42, v43, v44, v45, v46, v47, rfl, ?_⟩
              exact ⟨fun e => K0.out (hne.out 0 (by decide) e), fun e => K1.out (hne.out 1 (by decide) e), fun e => K2.out (hne.out 2 (by decide) e), fun _ => rfl, fun e => K4.out (hne.out 4 (by decide) e), fun e => K5.out (hne.out 5 (by decide) e), fun e => K6.out (hne.out 6 (by decide) e), fun e => K7.out (hne.out 7 (by decide) e), fun e => K8.out (hne.out 8 (by decide) e), fun e => K9.out (hne.out 9 (by decide) e), fun e => K10.out (hne.out 10 (by decide) e), fun e => K11.out (hne.out 11 (by decide) e), fun e => K12.out (hne.out 12 (by decide) e), fun e => K13.out (hne.out 13 (by decide) e), fun e => K14.out (hne.out 14 (by decide) e), hB⟩
            · cases ho
              have d0 := hd ⟨0, .data⟩ (by simp) rfl
              have d3 := hd ⟨3, .data⟩ (by simp) rfl
              obtain rfl := K0.out d0
              obtain rfl := K3.out d3
              refine wpOp_step rfl (fun K hK => ?_)
              go_simp
              go_at_call 69
              refine (cI.out _).mono ?_
              rintro e w3 ⟨rfl, rfl⟩
              refine hK _ _ ⟨by simpa using hz, .int .i64 ↑k, v34, v35, .int .i64 ((n : Int) - 1), .bool true, v38, v39, v40, v41, v42, v43, v44, v45, v46, v47, rfl, ?_⟩
              exact ⟨fun e => K0.out (hne.out 0 (by decide) e), fun e => K1.out (hne.out 1 (by decide) e), fun e => K2.out (hne.out 2 (by decide) e), fun e => K3.out (hne.out 3 (by decide) e), fun _ => rfl, fun e => K5.out (hne.out 5 (by decide) e), fun e => K6.out (hne.out 6 (by decide) e), fun e => K7.out (hne.out 7 (by decide) e), fun e => K8.out (hne.out 8 (by decide) e), fun e => K9.out (hne.out 9 (by decide) e), fun e => K10.out (hne.out 10 (by decide) e), fun e => K11.out (hne.out 11 (by decide) e), fun e => K12.out (hne.out 12 (by decide) e), fun e => K13.out (hne.out 13 (by decide) e), fun e => K14.out (hne.out 14 (by decide) e), hB⟩
            · cases ho
              have d4 := hd ⟨4, .data⟩ (by simp) rfl
              obtain rfl := K4.out d4
              refine wpOp_step rfl (fun K hK => ?_)
              go_simp
              refine hK _ _ ⟨by simpa using hz, v33, v34, v35, v36, .bool true, .bool false, v39, v40, v41, v42, v43, v44, v45, v46, v47, rfl, ?_⟩
              exact ⟨fun e => K0.out (hne.out 0 (by decide) e), fun e => K1.out (hne.out 1 (by decide) e), fun e => K2.out (hne.out 2 (by decide) e), fun e => K3.out (hne.out 3 (by decide) e), fun e => K4.out (hne.out 4 (by decide) e), fun _ => rfl, fun e => K6.out (hne.out 6 (by decide) e), fun e => K7.out (hne.out 7 (by decide) e), fun e => K8.out (hne.out 8 (by decide) e), fun e => K9.out (hne.out 9 (by decide) e), fun e => K10.out (hne.out 10 (by decide) e), fun e => K11.out (hne.out 11 (by decide) e), fun e => K12.out (hne.out 12 (by decide) e), fun e => K13.out (hne.out 13 (by decide) e), fun e => K14.out (hne.out 14 (by decide) e), hB⟩
            · cases ho
              have d5 := hd ⟨5, .data⟩ (by simp) rfl
              obtain rfl := K5.out d5
              refine wpOp_step rfl (fun K hK => ?_)
              go_simp
              refine hK _ _ ⟨by simpa using hz, v33, v34, v35, v36, v37, .bool false, .bool false, v40, v41, v42, v43, v44, v45, v46, v47, rfl, ?_⟩
              exact ⟨fun e => K0.out (hne.out 0 (by decide) e), fun e => K1.out (hne.out 1 (by decide) e), fun e => K2.out (hne.out 2 (by decide) e), fun e => K3.out (hne.out 3 (by decide) e), fun e => K4.out (hne.out 4 (by decide) e), fun e => K5.out (hne.out 5 (by decide) e), fun _ => rfl, fun e => K7.out (hne.out 7 (by decide) e), fun e => K8.out (hne.out 8 (by decide) e), fun e => K9.out (hne.out 9 (by decide) e), fun e => K10.out (hne.out 10 (by decide) e), fun e => K11.out (hne.out 11 (by decide) e), fun e => K12.out (hne.out 12 (by decide) e), fun e => K13.out (hne.out 13 (by decide) e), fun e => K14.out (hne.out 14 (by decide) e), hB⟩
            · cases ho
              have d6 := hd ⟨6, .guard⟩ (by simp) rfl
              obtain rfl := K6.out d6
              refine wpOp_step rfl (fun K hK => ?_)
              go_simp
              refine hK _ _ ⟨by simpa using hz, v33, v34, v35, v36, v37, v38, .bool false, .slice (some ⟨g, off, none⟩) n c, v41, v42, v43, v44, v45, v46, v47, rfl, ?_⟩
              exact ⟨fun e => K0.out (hne.out 0 (by decide) e), fun e => K1.out (hne.out 1 (by decide) e), fun e => K2.out (hne.out 2 (by decide) e), fun e => K3.out (hne.out 3 (by decide) e), fun e => K4.out (hne.out 4 (by decide) e), fun e => K5.out (hne.out 5 (by decide) e), fun e => K6.out (hne.out 6 (by decide) e), fun _ => rfl, fun e => K8.out (hne.out 8 (by decide) e), fun e => K9.out (hne.out 9 (by decide) e), fun e => K10.out (hne.out 10 (by decide) e), fun e => K11.out (hne.out 11 (by decide) e), fun e => K12.out (hne.out 12 (by decide) e), fun e => K13.out (hne.out 13 (by decide) e), fun e => K14.out (hne.out 14 (by decide) e), hB⟩
            · cases ho
              have d6 := hd ⟨6, .guard⟩ (by simp) rfl
              obtain rfl := K6.out d6
              refine wpOp_step rfl (fun K hK => ?_)
              go_simp
              refine hK _ _ ⟨by simpa using hz, v33, v34, v35, v36, v37, v38, .bool false, v40, .int .i64 ↑k, v42, v43, v44, v45, v46, v47, rfl, ?_⟩
              exact ⟨fun e => K0.out (hne.out 0 (by decide) e), fun e => K1.out (hne.out 1 (by decide) e), fun e => K2.out (hne.out 2 (by decide) e), fun e => K3.out (hne.out 3 (by decide) e), fun e => K4.out (hne.out 4 (by decide) e), fun e => K5.out (hne.out 5 (by decide) e), fun e => K6.out (hne.out 6 (by decide) e), fun e => K7.out (hne.out 7 (by decide) e), fun _ => rfl, fun e => K9.out (hne.out 9 (by decide) e), fun e => K10.out (hne.out 10 (by decide) e), fun e => K11.out (hne.out 11 (by decide) e), fun e => K12.out (hne.out 12 (by decide) e), fun e => K13.out (hne.out 13 (by decide) e), fun e => K14.out (hne.out 14 (by decide) e), hB⟩
            · cases ho
              have d7 := hd ⟨7, .data⟩ (by simp) rfl
              have d8 := hd ⟨8, .data⟩ (by simp) rfl
              have d6 := hd ⟨6, .guard⟩ (by simp) rfl
              obtain rfl := K7.out d7
              obtain rfl := K8.out d8
              obtain rfl := K6.out d6
              have hk0 : (0 : Int) ≤ (k : Int) := by omega
              have hk1 : (k : Int) < (n : Int) := by omega
              refine wpOp_step rfl (fun K hK => ?_)
              go_simp
              refine hK _ _ ⟨by simpa using hz, v33, v34, v35, v36, v37, v38, .bool false, .slice (some ⟨g, off, none⟩) n c, .int .i64 ↑k, .pointer (some ⟨g, off + k * 5, none⟩), v43, v44, v45, v46, v47, rfl, ?_⟩
              exact ⟨fun e => K0.out (hne.out 0 (by decide) e), fun e => K1.out (hne.out 1 (by decide) e), fun e => K2.out (hne.out 2 (by decide) e), fun e => K3.out (hne.out 3 (by decide) e), fun e => K4.out (hne.out 4 (by decide) e), fun e => K5.out (hne.out 5 (by decide) e), fun e => K6.out (hne.out 6 (by decide) e), fun e => K7.out (hne.out 7 (by decide) e), fun e => K8.out (hne.out 8 (by decide) e), fun _ => rfl, fun e => K10.out (hne.out 10 (by decide) e), fun e => K11.out (hne.out 11 (by decide) e), fun e => K12.out (hne.out 12 (by decide) e), fun e => K13.out (hne.out 13 (by decide) e), fun e => K14.out (hne.out 14 (by decide) e), hB⟩
            · cases ho
              have d9 := hd ⟨9, .data⟩ (by simp) rfl
              have d6 := hd ⟨6, .guard⟩ (by simp) rfl
              obtain rfl := K9.out d9
              obtain rfl := K6.out d6
              obtain ⟨_, e0, e1, e2, e3, e4, e5, e6, e7, e8, e9⟩ := hOk.out wx hB
              refine wpOp_step rfl (fun K hK => ?_)
              go_simp
              refine hK _ _ ⟨by simpa using hz, v33, v34, v35, v36, v37, v38, .bool false, v40, v41, .pointer (some ⟨g, off + k * 5, none⟩), .agg #[.int .i64 d.v, .int .i64 d.n, .int .i64 d.a, .int .i64 d.b, .int .i64 d.c], v44, v45, v46, v47, rfl, ?_⟩
              exact ⟨fun e => K0.out (hne.out 0 (by decide) e), fun e => K1.out (hne.out 1 (by decide) e), fun e => K2.out (hne.out 2 (by decide) e), fun e => K3.out (hne.out 3 (by decide) e), fun e => K4.out (hne.out 4 (by decide) e), fun e => K5.out (hne.out 5 (by decide) e), fun e => K6.out (hne.out 6 (by decide) e), fun e => K7.out (hne.out 7 (by decide) e), fun e => K8.out (hne.out 8 (by decide) e), fun e => K9.out (hne.out 9 (by decide) e), fun _ => rfl, fun e => K11.out (hne.out 11 (by decide) e), fun e => K12.out (hne.out 12 (by decide) e), fun e => K13.out (hne.out 13 (by decide) e), fun e => K14.out (hne.out 14 (by decide) e), hB⟩
            · cases ho
              have d10 := hd ⟨10, .data⟩ (by simp) rfl
              have d6 := hd ⟨6, .guard⟩ (by simp) rfl
              obtain rfl := K10.out d10
              obtain rfl := K6.out d6
              refine wpOp_step rfl (fun K hK => ?_)
              go_simp
              go_at_call 81
              refine (cL.out _).mono ?_
              rintro e w3 ⟨rfl, hb3⟩
              refine hK _ _ ⟨by simpa using hz, v33, v34, v35, v36, v37, v38, .bool false, v40, v41, v42, .agg #[.int .i64 d.v, .int .i64 d.n, .int .i64 d.a, .int .i64 d.b, .int .i64 d.c], .int .i64 d.lev, v45, v46, v47, rfl, ?_⟩
              exact ⟨fun e => K0.out (hne.out 0 (by decide) e), fun e => K1.out (hne.out 1 (by decide) e), fun e => K2.out (hne.out 2 (by decide) e), fun e => K3.out (hne.out 3 (by decide) e), fun e => K4.out (hne.out 4 (by decide) e), fun e => K5.out (hne.out 5 (by decide) e), fun e => K6.out (hne.out 6 (by decide) e), fun e => K7.out (hne.out 7 (by decide) e), fun e => K8.out (hne.out 8 (by decide) e), fun e => K9.out (hne.out 9 (by decide) e), fun e => K10.out (hne.out 10 (by decide) e), fun _ => rfl, fun e => K12.out (hne.out 12 (by decide) e), fun e => K13.out (hne.out 13 (by decide) e), fun e => K14.out (hne.out 14 (by decide) e), hB.trans (hb3.mono hB.size)⟩
            · cases ho
              have d6 := hd ⟨6, .guard⟩ (by simp) rfl
              obtain rfl := K6.out d6
              refine wpOp_step rfl (fun K hK => ?_)
              go_simp
              refine hK _ _ ⟨by simpa using hz, v33, v34, v35, v36, v37, v38, .bool false, v40, v41, v42, v43, v44, .pointer (some ⟨G, 0, none⟩), v46, v47, rfl, ?_⟩
              exact ⟨fun e => K0.out (hne.out 0 (by decide) e), fun e => K1.out (hne.out 1 (by decide) e), fun e => K2.out (hne.out 2 (by decide) e), fun e => K3.out (hne.out 3 (by decide) e), fun e => K4.out (hne.out 4 (by decide) e), fun e => K5.out (hne.out 5 (by decide) e), fun e => K6.out (hne.out 6 (by decide) e), fun e => K7.out (hne.out 7 (by decide) e), fun e => K8.out (hne.out 8 (by decide) e), fun e => K9.out (hne.out 9 (by decide) e), fun e => K10.out (hne.out 10 (by decide) e), fun e => K11.out (hne.out 11 (by decide) e), fun _ => rfl, fun e => K13.out (hne.out 13 (by decide) e), fun e => K14.out (hne.out 14 (by decide) e), hB⟩
            · cases ho
              have d12 := hd ⟨12, .data⟩ (by simp) rfl
              have d6 := hd ⟨6, .guard⟩ (by simp) rfl
              obtain rfl := K12.out d12
              obtain rfl := K6.out d6
              obtain ⟨_, e0, e1, e2, e3, e4, e5, e6, e7, e8, e9⟩ := hOk.out wx hB
              refine wpOp_step rfl (fun K hK => ?_)
              go_simp
              refine hK _ _ ⟨by simpa using hz, v33, v34, v35, v36, v37, v38, .bool false, v40, v41, v42, v43, v44, .pointer (some ⟨G, 0, none⟩), .int .i64 s.v, v47, rfl, ?_⟩
              exact ⟨fun e => K0.out (hne.out 0 (by decide) e), fun e => K1.out (hne.out 1 (by decide) e), fun e => K2.out (hne.out 2 (by decide) e), fun e => K3.out (hne.out 3 (by decide) e), fun e => K4.out (hne.out 4 (by decide) e), fun e => K5.out (hne.out 5 (by decide) e), fun e => K6.out (hne.out 6 (by decide) e), fun e => K7.out (hne.out 7 (by decide) e), fun e => K8.out (hne.out 8 (by decide) e), fun e => K9.out (hne.out 9 (by decide) e), fun e => K10.out (hne.out 10 (by decide) e), fun e => K11.out (hne.out 11 (by decide) e), fun e => K12.out (hne.out 12 (by decide) e), fun _ => rfl, fun e => K14.out (hne.out 14 (by decide) e), hB⟩
            · cases ho
              have d11 := hd ⟨11, .data⟩ (by simp) rfl
              have d13 := hd ⟨13, .data⟩ (by simp) rfl
              have d6 := hd ⟨6, .guard⟩ (by simp) rfl
              obtain rfl := K11.out d11
              obtain rfl := K13.out d13
              obtain rfl := K6.out d6
              refine wpOp_step rfl (fun K hK => ?_)
              go_simp
              refine hK _ _ ⟨by simpa using hz, v33, v34, v35, v36, v37, v38, .bool false, v40, v41, v42, v43, .int .i64 d.lev, v45, .int .i64 s.v, .bool (decide (d.lev ≤ s.v)), rfl, ?_⟩
              exact ⟨fun e => K0.out (hne.out 0 (by decide) e), fun e => K1.out (hne.out 1 (by decide) e), fun e => K2.out (hne.out 2 (by decide) e), fun e => K3.out (hne.out 3 (by decide) e), fun e => K4.out (hne.out 4 (by decide) e), fun e => K5.out (hne.out 5 (by decide) e), fun e => K6.out (hne.out 6 (by decide) e), fun e => K7.out (hne.out 7 (by decide) e), fun e => K8.out (hne.out 8 (by decide) e), fun e => K9.out (hne.out 9 (by decide) e), fun e => K10.out (hne.out 10 (by decide) e), fun e => K11.out (hne.out 11 (by decide) e), fun e => K12.out (hne.out 12 (by decide) e), fun e => K13.out (hne.out 13 (by decide) e), fun _ => rfl, hB⟩
          case hl =>
            rintro listed aq wx ⟨hz, v33, v34, v35, v36, v37, v38, v39, v40, v41, v42, v43, v44, v45, v46, v47, rfl, hII⟩ hall
            have K0 := Lib.hid hII.1
            have K1 := Lib.hid hII.2.1
            have K2 := Lib.hid hII.2.2.1
            have K3 := Lib.hid hII.2.2.2.1
            have K4 := Lib.hid hII.2.2.2.2.1
            have K5 := Lib.hid hII.2.2.2.2.2.1
            have K6 := Lib.hid hII.2.2.2.2.2.2.1
            have K7 := Lib.hid hII.2.2.2.2.2.2.2.1
            have K8 := Lib.hid hII.2.2.2.2.2.2.2.2.1
            have K9 := Lib.hid hII.2.2.2.2.2.2.2.2.2.1
            have K10 := Lib.hid hII.2.2.2.2.2.2.2.2.2.2.1
            have K11 := Lib.hid hII.2.2.2.2.2.2.2.2.2.2.2.1
            have K12 := Lib.hid hII.2.2.2.2.2.2.2.2.2.2.2.2.1
            have K13 := Lib.hid hII.2.2.2.2.2.2.2.2.2.2.2.2.2.1
            have K14 := Lib.hid hII.2.2.2.2.2.2.2.2.2.2.2.2.2.2.1
            have hB : Below wr.heap.size wr wx := hII.2.2.2.2.2.2.2.2.2.2.2.2.2.2.2
            clear hII
            obtain rfl := K0.out (hall 0 (by decide))
            obtain rfl := K1.out (hall 1 (by decide))
            obtain rfl := K2.out (hall 2 (by decide))
            obtain rfl := K3.out (hall 3 (by decide))
            obtain rfl := K4.out (hall 4 (by decide))
            obtain rfl := K5.out (hall 5 (by decide))
            obtain rfl := K6.out (hall 6 (by decide))
            obtain rfl := K7.out (hall 7 (by decide))
            obtain rfl := K8.out (hall 8 (by decide))
            obtain rfl := K9.out (hall 9 (by decide))
            obtain rfl := K10.out (hall 10 (by decide))
            obtain rfl := K11.out (hall 11 (by decide))
            obtain rfl := K12.out (hall 12 (by decide))
            obtain rfl := K13.out (hall 13 (by decide))
            obtain rfl := K14.out (hall 14 (by decide))
            clear hall K0 K1 K2 K3 K4 K5 K6 K7 K8 K9 K10 K11 K12 K13 K14
            refine wpOp_step rfl (fun K0 hK0 => ?_)
            go_simp
            refine hK0 _ _ ?_
            clear hK0
            have hBn := Lib.hid (hB2.out.trans (hB.mono (by omega)))
            have hLn := Lib.hid (hLr.out.trans (hB.mono hzr))
            clear hB
            cases hdd : decide (d.lev ≤ s.v)
            · have hT := Lib.hid (show kOk ds s.v s.c = true by rw [hKd, hdd]; rfl)
              go_wp2_with fail
              exact ⟨⟨hLn.out, .inr (.inr (.inr ⟨rfl, ha, hb', hT.out⟩))⟩, by simp [intOf]⟩
            · have hT : kOk ds s.v s.c = false := by rw [hKd, hdd]; rfl
              have hF := Lib.hid (show cOk s ds = false by rw [hR.out, hT, Bool.and_false])
              clear hT
              go_wp2_with fail
              go_ret
              exact ⟨ret_bool hF.out, by rw [hG]; exact hBn.out⟩
        · have hK : kOk ds s.v s.c = false := by
            unfold kOk
            rw [hlen, q3, Bool.false_and]
          rw [q3] at cI
          have hF := Lib.hid (show cOk s ds = false by rw [hR.out, hK, Bool.and_false])
          have hxc := hWr.out.cell
          clear hK q1 q3 hlen
          go_wp2_with fail
          go_quiet ((go_at_call 69; exact Calls.quiet_of_same ((cI.out _).mono fun _ _ h => ⟨h.1, h.2.symm⟩)))
          go_wp2_with fail
          go_ret
          exact ⟨ret_bool hF.out, by rw [hG]; exact below_drewN hB2.out _⟩
      · have hT := Lib.hid (show cOk s ds = true by rw [hR.out, ha, hb', hc']; rfl)
        go_wp2_with fail
        go_ret
        exact ⟨ret_bool hT.out, by rw [hG]; exact hB2.out⟩
end Go.Proofs.Ytghkpmafocacoaa
