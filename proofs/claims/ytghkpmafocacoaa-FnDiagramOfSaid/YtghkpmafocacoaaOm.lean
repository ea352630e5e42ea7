/- Diagrams: the model's l11Level, DiagramOk. -/
import Derived.Test.YtghkpmafocacoaaO5
namespace Go.Proofs.Ytghkpmafocacoaa
set_option maxRecDepth 100000
set_option linter.unusedVariables false
open Go.RowKit

theorem l11Level_any (s : Ce) (h : -1 ≤ s.v) (w : World) :
    Calls Try.prog 67 #[.agg #[.int .i64 s.v, .int .i64 s.n, .int .i64 s.a, .int .i64 s.b, .int .i64 s.c]] w fun e w' => e = .returned (.int .i64 s.lev) ∧ Below w.heap.size w w' := by
  have hB := Lib.hid (show Below w.heap.size w (w.alloc (.cells #[.int .i64 s.v, .int .i64 s.n, .int .i64 s.a, .int .i64 s.b, .int .i64 s.c] 47)) from (Below.refl _ _).alloc (Nat.le_refl _) _)
  by_cases h0 : s.v < 0
  · have hR := Lib.hid (show s.lev = 4 from if_pos (by omega))
    have hd : decide (s.v < 0) = true := decide_eq_true h0
    go_enter Try.func67, Try.ntmps67
    go_wp2
    go_ret
    exact ⟨ret_int hR.out, hB.out⟩
  · have hR := Lib.hid (show s.lev = s.v from if_neg (by omega))
    have hd : decide (s.v < 0) = false := decide_eq_false h0
    go_enter Try.func67, Try.ntmps67
    go_wp2
    go_ret
    exact ⟨ret_int hR.out, hB.out⟩
theorem cOk_ge {c : Ce} {ds : List Ce} (h : cOk c ds = true) : -1 ≤ c.v := by
  by_cases hv : c.v = -1
  · omega
  · have := cOk_var h hv; omega
theorem allOk_ge {ds : List Ce} {k j : Nat} (h : allOk ds k = true) (hj : j < k) : -1 ≤ (gt ds j).v := cOk_ge (allOk_at h hj)
set_option maxHeartbeats 4000000 in
theorem specDiagramOk_any (A : Option Addr) (n c : Nat) (ds : List Ce) (w : World) (h : CLst w w.heap.size A n ds) (hn : n ≤ maxLen) (hc : c ≤ maxLen) (hnc : n ≤ c) :
    Calls Try.prog 16 #[.slice A n c] w fun e w' => e = .returned (.bool (diaOk ds)) ∧ Below w.heap.size w w' := by
  unfold maxLen at hn hc
  have hL := Lib.hid h.1
  have hH := Lib.hid h
  clear h
  have hE : diaOk ds = (inB (n : Int) 1 121 && allOk ds n) := by unfold diaOk; rw [hL.out]
  have hEh := Lib.hid hE
  clear hE
  go_enter Try.func16, Try.ntmps16
  go_wp2
  go_loopw [3] (fun i wr => ∃ k : Nat, k ≤ n ∧ i = .int .i64 k ∧ allOk ds k = true ∧ Below w.heap.size w wr) (fun i _ => n - (intOf i).toNat)
  case atStart => exact ⟨0, Nat.zero_le _, rfl, rfl, Below.refl _ _⟩
  case round =>
    obtain ⟨k, hk, rfl, hall, hb⟩ := hrel
    have hAll := Lib.hid hall
    clear hall
    by_cases hlt : k < n
    · have hz := hb.size
      have hT := Lib.hid ((hH.out.below hb).more hz)
      obtain ⟨g, off, rfl, hg, hat⟩ := (hH.out.below hb).gt_ hlt
      obtain ⟨c0, c1, c2, c3, c4⟩ := hat.open_
      have hS := Lib.hid (allOk_succ ds k)
      have hN := Lib.hid (fun h => allOk_no (ds := ds) (k := k) (m := n) h hlt)
      have hKd := Lib.hid (fun v x => (show kOk (ds.take k) v x = (inB x 0 (((ds.take k).length : Int) - 1) && decide (v < (gt (ds.take k) x.toNat).lev)) from rfl))
      have htl : (ds.take k).length = k := by rw [List.length_take, hL.out]; omega
      rw [htl] at hKd
      generalize hgs : gt ds k = s at *
      have hgsh := Lib.hid hgs
      clear hgs htl
      have hF := Lib.hid (fun (q : cOk s (ds.take k) = false) => (show diaOk ds = false by rw [hEh.out, hN.out q, Bool.and_false]))
      have hW := Lib.hid (Has.new wr 47 #[.int .i64 s.v, .int .i64 s.n, .int .i64 s.a, .int .i64 s.b, .int .i64 s.c])
      have hB := Lib.hid (hb.alloc hz (.cells #[.int .i64 s.v, .int .i64 s.n, .int .i64 s.a, .int .i64 s.b, .int .i64 s.c] 47))
      have hT2 := Lib.hid (hT.out.below ((Below.refl wr.heap.size wr).alloc (Nat.le_refl _) (.cells #[.int .i64 s.v, .int .i64 s.n, .int .i64 s.a, .int .i64 s.b, .int .i64 s.c] 47)))
      have hA2 := Lib.hid (fun (q : cOk s (ds.take k) = true) => (show allOk ds (k + 1) = true by rw [hS.out, hAll.out, q]; rfl))
      clear hat hb hT hN hS
      have hk0 : (0 : Int) ≤ (k : Int) := by omega
      have hk1 : (k : Int) < (n : Int) := by omega
      rcases ce_leaf s with hv | hv
      · have hX := cOk_leaf (ds := ds.take k) hv
        have cI := Lib.hid (fun wx => l1In_any s.n 0 1000000000 wx)
        cases q1 : inB s.n 0 1000000000
        · have hR := Lib.hid (hF.out (by rw [hX, q1]; rfl))
          rw [q1] at cI
          clear hX hF hA2 hT2 hW
          go_wp2_with (go_at_call 65; refine (cI.out _).mono ?_; rintro e w' ⟨rfl, rfl⟩)
          go_ret
          exact ⟨ret_bool hR.out, hB.out⟩
        · rw [q1] at cI
          by_cases q2 : s.a = 0
          · by_cases q3 : s.b = 0
            · by_cases q4 : s.c = 0
              · have hR := Lib.hid (hA2.out (by rw [hX, q1, q2, q3, q4]; rfl))
                have n2 : (s.a != 0) = false := by simp [q2]
                have n3 : (s.b != 0) = false := by simp [q3]
                have n4 : (s.c != 0) = false := by simp [q4]
                clear hX hF hA2 hT2 hW q2 q3 q4
                go_wp2_with (go_at_call 65; refine (cI.out _).mono ?_; rintro e w' ⟨rfl, rfl⟩)
                exact ⟨⟨k + 1, by omega, by go_num, hR.out, hB.out⟩, by simp [intOf]; omega⟩
              · have hR := Lib.hid (hF.out (by rw [hX, q1]; simp [eq3, q4]))
                have n2 : (s.a != 0) = false := by simp [q2]
                have n3 : (s.b != 0) = false := by simp [q3]
                have n4 : (s.c != 0) = true := by simp [q4]
                clear hX hF hA2 hT2 hW q2 q3 q4
                go_wp2_with (go_at_call 65; refine (cI.out _).mono ?_; rintro e w' ⟨rfl, rfl⟩)
                go_ret
                exact ⟨ret_bool hR.out, hB.out⟩
            · have hR := Lib.hid (hF.out (by rw [hX, q1]; simp [eq3, q3]))
              have n2 : (s.a != 0) = false := by simp [q2]
              have n3 : (s.b != 0) = true := by simp [q3]
              clear hX hF hA2 hT2 hW q2 q3
              go_wp2_with (go_at_call 65; refine (cI.out _).mono ?_; rintro e w' ⟨rfl, rfl⟩)
              go_ret
              exact ⟨ret_bool hR.out, hB.out⟩
          · have hR := Lib.hid (hF.out (by rw [hX, q1]; simp [eq3, q2]))
            have n2 : (s.a != 0) = true := by simp [q2]
            clear hX hF hA2 hT2 hW q2
            go_wp2_with (go_at_call 65; refine (cI.out _).mono ?_; rintro e w' ⟨rfl, rfl⟩)
            go_ret
            exact ⟨ret_bool hR.out, hB.out⟩
      · have hX := cOk_node (ds := ds.take k) hv
        have cVr := Lib.hid (fun wx => l1Var_any s.v wx)
        cases q1 : inB s.v 0 3
        · have hR := Lib.hid (hF.out (by rw [hX, q1]; rfl))
          rw [q1] at cVr
          clear hX hF hA2 hT2 hW
          go_wp2_with (go_at_call 66; refine (cVr.out _).mono ?_; rintro e w' ⟨rfl, rfl⟩)
          go_ret
          exact ⟨ret_bool hR.out, hB.out⟩
        rw [q1] at cVr
        cases q2 : (s.n == 0)
        · have hR := Lib.hid (hF.out (by rw [hX, q1, q2]; rfl))
          have n2 : (s.n != 0) = true := by rw [bne, q2]; rfl
          clear hX hF hA2 hT2 hW q2
          go_wp2_with (go_at_call 66; refine (cVr.out _).mono ?_; rintro e w' ⟨rfl, rfl⟩)
          go_ret
          exact ⟨ret_bool hR.out, hB.out⟩
        have n2 : (s.n != 0) = false := by rw [bne, q2]; rfl
        have hR := Lib.hid (show cOk s (ds.take k) = (kOk (ds.take k) s.v s.a && kOk (ds.take k) s.v s.b && kOk (ds.take k) s.v s.c) by rw [hX, q1, q2]; rfl)
        have hz1 := hB.out.size
        clear hX q1 q2
        go_wp2_with (go_at_call 66; refine (cVr.out _).mono ?_; rintro e w' ⟨rfl, rfl⟩)
        clear c0 c1 c2 c3 c4
        generalize hW0 : wr.alloc (.cells #[.int .i64 s.v, .int .i64 s.n, .int .i64 s.a, .int .i64 s.b, .int .i64 s.c] 47) = W0 at hW hB hT2 hz1 ⊢
        have hzW : wr.heap.size ≤ W0.heap.size := by rw [← hW0]; simp
        generalize hGw : wr.heap.size = G at hW hT2 hzW hz ⊢
        clear hW0 hGw n2
        go_loopw [5] (fun i wq => Below W0.heap.size W0 wq ∧ (i = .int .i64 0 ∨ (i = .int .i64 1 ∧ kOk (ds.take k) s.v s.a = true) ∨ (i = .int .i64 2 ∧ kOk (ds.take k) s.v s.a = true ∧ kOk (ds.take k) s.v s.b = true) ∨ (i = .int .i64 3 ∧ kOk (ds.take k) s.v s.a = true ∧ kOk (ds.take k) s.v s.b = true ∧ kOk (ds.take k) s.v s.c = true))) (fun i _ => 3 - (intOf i).toNat)
        case atStart => exact ⟨Below.refl _ _, .inl rfl⟩
        case round =>
          obtain ⟨hbq, hrel⟩ := hrel
          obtain ⟨wq, rfl⟩ : ∃ x : World, x = wr := ⟨_, rfl⟩
          have hB2 := Lib.hid (hB.out.trans (hbq.mono hz1))
          have hHr := Lib.hid (hT2.out.below (hbq.mono hzW))
          have hWr := Lib.hid (hW.out.kept hbq)
          have hLr := Lib.hid hbq
          have hzr := hbq.size
          have hGz : G ≤ wq.heap.size := by omega
          clear hbq
          rcases hrel with rfl | ⟨rfl, ha⟩ | ⟨rfl, ha, hb'⟩ | ⟨rfl, ha, hb', hc'⟩
          · have cI := Lib.hid (fun wx => l1In_any s.a 0 ((k : Int) - 1) wx)
            rcases inB_cases s.a 0 ((k : Int) - 1) with ⟨q1, q2, q3⟩ | ⟨q1, q3⟩
            · obtain ⟨j, hj⟩ : ∃ j : Nat, s.a = j := ⟨_, (Int.toNat_of_nonneg q1).symm⟩
              have hjk : j < k := by omega
              obtain ⟨g', off', eA, hg', hat⟩ := hHr.out.gt_ (k := j) (by omega)
              injection eA with eA
              injection eA with eA1 eA2 _
              subst eA1 eA2
              have hgz : g < wq.heap.size := by omega
              obtain ⟨c0, c1, c2, c3, c4⟩ := hat.open_
              have hge := allOk_ge hAll.out hjk
              have hKq := Lib.hid (show kOk (ds.take k) s.v s.a = !(decide ((gt ds j).lev ≤ s.v)) by
                rw [hKd.out, q3, Bool.true_and, hj, Int.toNat_natCast, gt_take hjk, ← decide_not]
                exact decide_eq_decide.2 (by omega))
              rw [q3, hj] at cI
              generalize gt ds j = d at *
              have cL := Lib.hid (fun wx => l11Level_any d hge wx)
              have hOk := Lib.hid (fun (wx : World) (hx : Below wq.heap.size wq wx) => (show Below wq.heap.size wq wx ∧ wx.cell? ⟨G, 0, none⟩ = some (.int .i64 s.v) ∧ wx.cell? ⟨G, 1, none⟩ = some (.int .i64 s.n) ∧ wx.cell? ⟨G, 2, none⟩ = some (.int .i64 (j : Int)) ∧ wx.cell? ⟨G, 3, none⟩ = some (.int .i64 s.b) ∧ wx.cell? ⟨G, 4, none⟩ = some (.int .i64 s.c) ∧ wx.cell? ⟨g, off + j * 5, none⟩ = some (.int .i64 d.v) ∧ wx.cell? ⟨g, off + j * 5 + 1, none⟩ = some (.int .i64 d.n) ∧ wx.cell? ⟨g, off + j * 5 + 2, none⟩ = some (.int .i64 d.a) ∧ wx.cell? ⟨g, off + j * 5 + 3, none⟩ = some (.int .i64 d.b) ∧ wx.cell? ⟨g, off + j * 5 + 4, none⟩ = some (.int .i64 d.c) from ⟨hx, (hWr.out.kept hx).cell 0, (hWr.out.kept hx).cell 1, ((hWr.out.kept hx).cell 2).trans (by rw [← hj]; rfl), (hWr.out.kept hx).cell 3, (hWr.out.kept hx).cell 4, (hx.cell (p := ⟨g, off + j * 5, none⟩) (by exact hgz)).trans c0, (hx.cell (p := ⟨g, off + j * 5 + 1, none⟩) (by exact hgz)).trans c1, (hx.cell (p := ⟨g, off + j * 5 + 2, none⟩) (by exact hgz)).trans c2, (hx.cell (p := ⟨g, off + j * 5 + 3, none⟩) (by exact hgz)).trans c3, (hx.cell (p := ⟨g, off + j * 5 + 4, none⟩) (by exact hgz)).trans c4⟩))
              have hjh := Lib.hid hj
              clear c0 c1 c2 c3 c4 hat q1 q2 q3 hj hge
              go_wp2_with fail
              refine wp_region_any (by kernel_rfl) ?_
              change wpAny _ _ _ _ _ _ _ (World.drew _)
              refine wpAny_last (n := 20) (I := fun listed aq wx => listed.size = 21 ∧ ∃ v54 v55 v56 v57 v58 v59 v60 v61 v62 v63 v64 v65 v66 v67 v68 v69 v70 v71 v72 v73 : Value, aq = { tmps := #[.slice (some ⟨g, off, none⟩) n c, undef, u2, .int .i64 ↑k, .pointer (some ⟨G, 0, none⟩), .int .i64 0, .int .i64 ↑k, .slice (some ⟨g, off, none⟩) n c, .int .i64 ↑n, .bool true, u10, u11, .slice (some ⟨g, off, none⟩) n c, .int .i64 ↑k, .pointer (some ⟨g, off + k * 5, none⟩), .agg #[.int .i64 s.v, .int .i64 s.n, .int .i64 s.a, .int .i64 s.b, .int .i64 s.c], .pointer (some ⟨G, 0, none⟩), .int .i64 s.v, .bool false, u19, u20, u21, u22, u23, u24, u25, u26, u27, u28, u29, u30, u31, u32, u33, u34, u35, u36, u37, u38, u39, u40, .pointer (some ⟨G, 0, none⟩), .int .i64 s.v, .bool true, .bool false, .bool false, .pointer (some ⟨G, 1, none⟩), .int .i64 s.n, .bool false, .bool false, .int .i64 0, .bool true, u52, u53, v54, v55, v56, v57, v58, v59, v60, v61, v62, v63, v64, v65, v66, v67, v68, v69, v70, v71, v72, v73, u74, undef, undef, undef], defers := [] } ∧ (listed.getD 0 false = true → v54 = .int .i64 0) ∧ (listed.getD 1 false = true → v55 = .pointer (some ⟨G, 2, none⟩)) ∧ (listed.getD 2 false = true → v56 = .pointer (some ⟨G, 2, none⟩)) ∧ (listed.getD 3 false = true → v57 = .int .i64 (j : Int)) ∧ (listed.getD 4 false = true → v58 = .int .i64 ↑k) ∧ (listed.getD 5 false = true → v59 = .int .i64 ((k : Int) - 1)) ∧ (listed.getD 6 false = true → v60 = .bool true) ∧ (listed.getD 7 false = true → v61 = .bool false) ∧ (listed.getD 8 false = true → v62 = .bool false) ∧ (listed.getD 9 false = true → v63 = .slice (some ⟨g, off, none⟩) n c) ∧ (listed.getD 10 false = true → v64 = .int .i64 0) ∧ (listed.getD 11 false = true → v65 = .pointer (some ⟨G, 2, none⟩)) ∧ (listed.getD 12 false = true → v66 = .pointer (some ⟨G, 2, none⟩)) ∧ (listed.getD 13 false = true → v67 = .int .i64 (j : Int)) ∧ (listed.getD 14 false = true → v68 = .pointer (some ⟨g, off + j * 5, none⟩)) ∧ (listed.getD 15 false = true → v69 = .agg #[.int .i64 d.v, .int .i64 d.n, .int .i64 d.a, .int .i64 d.b, .int .i64 d.c]) ∧ (listed.getD 16 false = true → v70 = .int .i64 d.lev) ∧ (listed.getD 17 false = true → v71 = .pointer (some ⟨G, 0, none⟩)) ∧ (listed.getD 18 false = true → v72 = .int .i64 s.v) ∧ (listed.getD 19 false = true → v73 = .bool (decide (d.lev ≤ s.v))) ∧ Below wq.heap.size wq wx) rfl (by kernel_rfl) (by kernel_rfl) ?hs ?hl _ _ _ ?st rfl (by decide) _ (by decide)
              case st =>
                refine ⟨rfl, u54, u55, u56, u57, u58, u59, u60, u61, u62, u63, u64, u65, u66, u67, u68, u69, u70, u71, u72, u73, rfl, ?_, ?_, ?_, ?_, ?_, ?_, ?_, ?_, ?_, ?_, ?_, ?_, ?_, ?_, ?_, ?_, ?_, ?_, ?_, ?_, (Below.refl _ _).drew⟩ <;> (intro e; exact absurd e (by decide))
              case hs =>
                rintro listed aq wx ⟨hz, v54, v55, v56, v57, v58, v59, v60, v61, v62, v63, v64, v65, v66, v67, v68, v69, v70, v71, v72, v73, rfl, hII⟩ i hin hi
                obtain ⟨h0, o, ho, hd⟩ := mem_ready.1 hi
                have K0 := Lib.hid hII.1
                have K1 := Lib.hid hII.2.1
                have K2 := Lib.hid hII.2.2.1
                have K3 := Lib.hid hII.2.2.2.1
                have K4 := Lib.hid hII.2.2.2.2.1
                have K5 := Lib.hid hII.2.2.2.2.2.1
                have K6 := Lib.hid hII.2.2.2.2.2.2.1
                have K7 := Lib.hid hII.2.2.2.2.2.2.2.1
                have K8 := Lib.hid hII.2.2.2.2.2.2.2.2.1
                have K9 := Lib.hid hII.2.2.2.2.2.2.2.2.2.1
                have K10 := Lib.hid hII.2.2.2.2.2.2.2.2.2.2.1
                have K11 := Lib.hid hII.2.2.2.2.2.2.2.2.2.2.2.1
                have K12 := Lib.hid hII.2.2.2.2.2.2.2.2.2.2.2.2.1
                have K13 := Lib.hid hII.2.2.2.2.2.2.2.2.2.2.2.2.2.1
                have K14 := Lib.hid hII.2.2.2.2.2.2.2.2.2.2.2.2.2.2.1
                have K15 := Lib.hid hII.2.2.2.2.2.2.2.2.2.2.2.2.2.2.2.1
                have K16 := Lib.hid hII.2.2.2.2.2.2.2.2.2.2.2.2.2.2.2.2.1
                have K17 := Lib.hid hII.2.2.2.2.2.2.2.2.2.2.2.2.2.2.2.2.2.1
                have K18 := Lib.hid hII.2.2.2.2.2.2.2.2.2.2.2.2.2.2.2.2.2.2.1
                have K19 := Lib.hid hII.2.2.2.2.2.2.2.2.2.2.2.2.2.2.2.2.2.2.2.1
                have hB : Below wq.heap.size wq wx := hII.2.2.2.2.2.2.2.2.2.2.2.2.2.2.2.2.2.2.2.2
                have hne := Lib.hid (fun k (hk : i ≠ k) => @listed_ne listed i k hk)
                have h0f : listed.getD i false = false := by rw [Array.getD_eq_getD_getElem?, getD_false h0]; rfl
                clear hII hi h0
                rcases (by omega : i = 0 ∨ i = 1 ∨ i = 2 ∨ i = 3 ∨ i = 4 ∨ i = 5 ∨ i = 6 ∨ i = 7 ∨ i = 8 ∨ i = 9 ∨ i = 10 ∨ i = 11 ∨ i = 12 ∨ i = 13 ∨ i = 14 ∨ i = 15 ∨ i = 16 ∨ i = 17 ∨ i = 18 ∨ i = 19) with rfl | rfl | rfl | rfl | rfl | rfl | rfl | rfl | rfl | rfl | rfl | rfl | rfl | rfl | rfl | rfl | rfl | rfl | rfl | rfl
                · cases ho
                  refine wpOp_step rfl (fun K hK => ?_)
                  go_simp
                  refine hK _ _ ⟨by simpa using hz, .int .i64 0, v55, v56, v57, v58, v59, v60, v61, v62, v63, v64, v65, v66, v67, v68, v69, v70, v71, v72, v73, rfl, ?_⟩
                  exact ⟨fun _ => rfl, fun e => K1.out (hne.out 1 (by decide) e), fun e => K2.out (hne.out 2 (by decide) e), fun e => K3.out (hne.out 3 (by decide) e), fun e => K4.out (hne.out 4 (by decide) e), fun e => K5.out (hne.out 5 (by decide) e), fun e => K6.out (hne.out 6 (by decide) e), fun e => K7.out (hne.out 7 (by decide) e), fun e => K8.out (hne.out 8 (by decide) e), fun e => K9.out (hne.out 9 (by decide) e), fun e => K10.out (hne.out 10 (by decide) e), fun e => K11.out (hne.out 11 (by decide) e), fun e => K12.out (hne.out 12 (by decide) e), fun e => K13.out (hne.out 13 (by decide) e), fun e => K14.out (hne.out 14 (by decide) e), fun e => K15.out (hne.out 15 (by decide) e), fun e => K16.out (hne.out 16 (by decide) e), fun e => K17.out (hne.out 17 (by decide) e), fun e => K18.out (hne.out 18 (by decide) e), fun e => K19.out (hne.out 19 (by decide) e), hB⟩
                · cases ho
                  refine wpOp_step rfl (fun K hK => ?_)
                  go_simp
                  refine hK _ _ ⟨by simpa using hz, v54, .pointer (some ⟨G, 2, none⟩), v56, v57, v58, v59, v60, v61, v62, v63, v64, v65, v66, v67, v68, v69, v70, v71, v72, v73, rfl, ?_⟩
                  exact ⟨fun e => K0.out (hne.out 0 (by decide) e), fun _ => rfl, fun e => K2.out (hne.out 2 (by decide) e), fun e => K3.out (hne.out 3 (by decide) e), fun e => K4.out (hne.out 4 (by decide) e), fun e => K5.out (hne.out 5 (by decide) e), fun e => K6.out (hne.out 6 (by decide) e), fun e => K7.out (hne.out 7 (by decide) e), fun e => K8.out (hne.out 8 (by decide) e), fun e => K9.out (hne.out 9 (by decide) e), fun e => K10.out (hne.out 10 (by decide) e), fun e => K11.out (hne.out 11 (by decide) e), fun e => K12.out (hne.out 12 (by decide) e), fun e => K13.out (hne.out 13 (by decide) e), fun e => K14.out (hne.out 14 (by decide) e), fun e => K15.out (hne.out 15 (by decide) e), fun e => K16.out (hne.out 16 (by decide) e), fun e => K17.out (hne.out 17 (by decide) e), fun e => K18.out (hne.out 18 (by decide) e), fun e => K19.out (hne.out 19 (by decide) e), hB⟩
                · cases ho
                  have d1 := hd ⟨1, .data⟩ (by simp) rfl
                  have d0 := hd ⟨0, .data⟩ (by simp) rfl
                  obtain rfl := K1.out d1
                  obtain rfl := K0.out d0
                  refine wpOp_step rfl (fun K hK => ?_)
                  go_simp
                  refine hK _ _ ⟨by simpa using hz, .int .i64 0, .pointer (some ⟨G, 2, none⟩), .pointer (some ⟨G, 2, none⟩), v57, v58, v59, v60, v61, v62, v63, v64, v65, v66, v67, v68, v69, v70, v71, v72, v73, rfl, ?_⟩
                  exact ⟨fun e => K0.out (hne.out 0 (by decide) e), fun e => K1.out (hne.out 1 (by decide) e), fun _ => rfl, fun e => K3.out (hne.out 3 (by decide) e), fun e => K4.out (hne.out 4 (by decide) e), fun e => K5.out (hne.out 5 (by decide) e), fun e => K6.out (hne.out 6 (by decide) e), fun e => K7.out (hne.out 7 (by decide) e), fun e => K8.out (hne.out 8 (by decide) e), fun e => K9.out (hne.out 9 (by decide) e), fun e => K10.out (hne.out 10 (by decide) e), fun e => K11.out (hne.out 11 (by decide) e), fun e => K12.out (hne.out 12 (by decide) e), fun e => K13.out (hne.out 13 (by decide) e), fun e => K14.out (hne.out 14 (by decide) e), fun e => K15.out (hne.out 15 (by decide) e), fun e => K16.out (hne.out 16 (by decide) e), fun e => K17.out (hne.out 17 (by decide) e), fun e => K18.out (hne.out 18 (by decide) e), fun e => K19.out (hne.out 19 (by decide) e), hB⟩
                · cases ho
                  have d2 := hd ⟨2, .data⟩ (by simp) rfl
                  obtain rfl := K2.out d2
                  obtain ⟨_, e0, e1, e2, e3, e4, e5, e6, e7, e8, e9⟩ := hOk.out wx hB
                  refine wpOp_step rfl (fun K hK => ?_)
                  go_simp
                  refine hK _ _ ⟨by simpa using hz, v54, v55, .pointer (some ⟨G, 2, none⟩), .int .i64 (j : Int), v58, v59, v60, v61, v62, v63, v64, v65, v66, v67, v68, v69, v70, v71, v72, v73, rfl, ?_⟩
                  exact ⟨fun e => K0.out (hne.out 0 (by decide) e), fun e => K1.out (hne.out 1 (by decide) e), fun e => K2.out (hne.out 2 (by decide) e), fun _ => rfl, fun e => K4.out (hne.out 4 (by decide) e), fun e => K5.out (hne.out 5 (by decide) e), fun e => K6.out (hne.out 6 (by decide) e), fun e => K7.out (hne.out 7 (by decide) e), fun e => K8.out (hne.out 8 (by decide) e), fun e => K9.out (hne.out 9 (by decide) e), fun e => K10.out (hne.out 10 (by decide) e), fun e => K11.out (hne.out 11 (by decide) e), fun e => K12.out (hne.out 12 (by decide) e), fun e => K13.out (hne.out 13 (by decide) e), fun e => K14.out (hne.out 14 (by decide) e), fun e => K15.out (hne.out 15 (by decide) e), fun e => K16.out (hne.out 16 (by decide) e), fun e => K17.out (hne.out 17 (by decide) e), fun e => K18.out (hne.out 18 (by decide) e), fun e => K19.out (hne.out 19 (by decide) e), hB⟩
                · cases ho
                  refine wpOp_step rfl (fun K hK => ?_)
                  go_simp
                  refine hK _ _ ⟨by simpa using hz, v54, v55, v56, v57, .int .i64 ↑k, v59, v60, v61, v62, v63, v64, v65, v66, v67, v68, v69, v70, v71, v72, v73, rfl, ?_⟩
                  exact ⟨fun e => K0.out (hne.out 0 (by decide) e), fun e => K1.out (hne.out 1 (by decide) e), fun e => K2.out (hne.out 2 (by decide) e), fun e => K3.out (hne.out 3 (by decide) e), fun _ => rfl, fun e => K5.out (hne.out 5 (by decide) e), fun e => K6.out (hne.out 6 (by decide) e), fun e => K7.out (hne.out 7 (by decide) e), fun e => K8.out (hne.out 8 (by decide) e), fun e => K9.out (hne.out 9 (by decide) e), fun e => K10.out (hne.out 10 (by decide) e), fun e => K11.out (hne.out 11 (by decide) e), fun e => K12.out (hne.out 12 (by decide) e), fun e => K13.out (hne.out 13 (by decide) e), fun e => K14.out (hne.out 14 (by decide) e), fun e => K15.out (hne.out 15 (by decide) e), fun e => K16.out (hne.out 16 (by decide) e), fun e => K17.out (hne.out 17 (by decide) e), fun e => K18.out (hne.out 18 (by decide) e), fun e => K19.out (hne.out 19 (by decide) e), hB⟩
                · cases ho
                  have d4 := hd ⟨4, .data⟩ (by simp) rfl
                  obtain rfl := K4.out d4
                  have hw1 : IntKind.i64.wrap ((k : Int) - 1) = (k : Int) - 1 := by rw [IntKind.wrap_i64]; omega
                  refine wpOp_step rfl (fun K hK => ?_)
                  go_simp
                  refine hK _ _ ⟨by simpa using hz, v54, v55, v56, v57, .int .i64 ↑k, .int .i64 ((k : Int) - 1), v60, v61, v62, v63, v64, v65, v66, v67, v68, v69, v70, v71, v72, v73, rfl, ?_⟩
                  exact ⟨fun e => K0.out (hne.out 0 (by decide) e), fun e => K1.out (hne.out 1 (by decide) e), fun e => K2.out (hne.out 2 (by decide) e), fun e => K3.out (hne.out 3 (by decide) e), fun e => K4.out (hne.out 4 (by decide) e), fun _ => rfl, fun e => K6.out (hne.out 6 (by decide) e), fun e => K7.out (hne.out 7 (by decide) e), fun e => K8.out (hne.out 8 (by decide) e), fun e => K9.out (hne.out 9 (by decide) e), fun e => K10.out (hne.out 10 (by decide) e), fun e => K11.out (hne.out 11 (by decide) e), fun e => K12.out (hne.out 12 (by decide) e), fun e => K13.out (hne.out 13 (by decide) e), fun e => K14.out (hne.out 14 (by decide) e), fun e => K15.out (hne.out 15 (by decide) e), fun e => K16.out (hne.out 16 (by decide) e), fun e => K17.out (hne.out 17 (by decide) e), fun e => K18.out (hne.out 18 (by decide) e), fun e => K19.out (hne.out 19 (by decide) e), hB⟩
                · cases ho
                  have d3 := hd ⟨3, .data⟩ (by simp) rfl
                  have d5 := hd ⟨5, .data⟩ (by simp) rfl
                  obtain rfl := K3.out d3
                  obtain rfl := K5.out d5
                  refine wpOp_step rfl (fun K hK => ?_)
                  go_simp
                  go_at_call 65
                  refine (cI.out _).mono ?_
                  rintro e w3 ⟨rfl, rfl⟩
                  refine hK _ _ ⟨by simpa using hz, v54, v55, v56, .int .i64 (j : Int), v58, .int .i64 ((k : Int) - 1), .bool true, v61, v62, v63, v64, v65, v66, v67, v68, v69, v70, v71, v72, v73, rfl, ?_⟩
                  exact ⟨fun e => K0.out (hne.out 0 (by decide) e), fun e => K1.out (hne.out 1 (by decide) e), fun e => K2.out (hne.out 2 (by decide) e), fun e => K3.out (hne.out 3 (by decide) e), fun e => K4.out (hne.out 4 (by decide) e), fun e => K5.out (hne.out 5 (by decide) e), fun _ => rfl, fun e => K7.out (hne.out 7 (by decide) e), fun e => K8.out (hne.out 8 (by decide) e), fun e => K9.out (hne.out 9 (by decide) e), fun e => K10.out (hne.out 10 (by decide) e), fun e => K11.out (hne.out 11 (by decide) e), fun e => K12.out (hne.out 12 (by decide) e), fun e => K13.out (hne.out 13 (by decide) e), fun e => K14.out (hne.out 14 (by decide) e), fun e => K15.out (hne.out 15 (by decide) e), fun e => K16.out (hne.out 16 (by decide) e), fun e => K17.out (hne.out 17 (by decide) e), fun e => K18.out (hne.out 18 (by decide) e), fun e => K19.out (hne.out 19 (by decide) e), hB⟩
                · cases ho
                  have d6 := hd ⟨6, .data⟩ (by simp) rfl
                  obtain rfl := K6.out d6
                  refine wpOp_step rfl (fun K hK => ?_)
                  go_simp
                  refine hK _ _ ⟨by simpa using hz, v54, v55, v56, v57, v58, v59, .bool true, .bool false, v62, v63, v64, v65, v66, v67, v68, v69, v70, v71, v72, v73, rfl, ?_⟩
                  exact ⟨fun e => K0.out (hne.out 0 (by decide) e), fun e => K1.out (hne.out 1 (by decide) e), fun e => K2.out (hne.out 2 (by decide) e), fun e => K3.out (hne.out 3 (by decide) e), fun e => K4.out (hne.out 4 (by decide) e), fun e => K5.out (hne.out 5 (by decide) e), fun e => K6.out (hne.out 6 (by decide) e), fun _ => rfl, fun e => K8.out (hne.out 8 (by decide) e), fun e => K9.out (hne.out 9 (by decide) e), fun e => K10.out (hne.out 10 (by decide) e), fun e => K11.out (hne.out 11 (by decide) e), fun e => K12.out (hne.out 12 (by decide) e), fun e => K13.out (hne.out 13 (by decide) e), fun e => K14.out (hne.out 14 (by decide) e), fun e => K15.out (hne.out 15 (by decide) e), fun e => K16.out (hne.out 16 (by decide) e), fun e => K17.out (hne.out 17 (by decide) e), fun e => K18.out (hne.out 18 (by decide) e), fun e => K19.out (hne.out 19 (by decide) e), hB⟩
                · cases ho
                  have d7 := hd ⟨7, .data⟩ (by simp) rfl
                  obtain rfl := K7.out d7
                  refine wpOp_step rfl (fun K hK => ?_)
                  go_simp
                  refine hK _ _ ⟨by simpa using hz, v54, v55, v56, v57, v58, v59, v60, .bool false, .bool false, v63, v64, v65, v66, v67, v68, v69, v70, v71, v72, v73, rfl, ?_⟩
                  exact ⟨fun e => K0.out (hne.out 0 (by decide) e), fun e => K1.out (hne.out 1 (by decide) e), fun e => K2.out (hne.out 2 (by decide) e), fun e => K3.out (hne.out 3 (by decide) e), fun e => K4.out (hne.out 4 (by decide) e), fun e => K5.out (hne.out 5 (by decide) e), fun e => K6.out (hne.out 6 (by decide) e), fun e => K7.out (hne.out 7 (by decide) e), fun _ => rfl, fun e => K9.out (hne.out 9 (by decide) e), fun e => K10.out (hne.out 10 (by decide) e), fun e => K11.out (hne.out 11 (by decide) e), fun e => K12.out (hne.out 12 (by decide) e), fun e => K13.out (hne.out 13 (by decide) e), fun e => K14.out (hne.out 14 (by decide) e), fun e => K15.out (hne.out 15 (by decide) e), fun e => K16.out (hne.out 16 (by decide) e), fun e => K17.out (hne.out 17 (by decide) e), fun e => K18.out (hne.out 18 (by decide) e), fun e => K19.out (hne.out 19 (by decide) e), hB⟩
                · cases ho
                  have d8 := hd ⟨8, .guard⟩ (by simp) rfl
                  obtain rfl := K8.out d8
                  refine wpOp_step rfl (fun K hK => ?_)
                  go_simp
                  refine hK _ _ ⟨by simpa using hz, v54, v55, v56, v57, v58, v59, v60, v61, .bool false, .slice (some ⟨g, off, none⟩) n c, v64, v65, v66, v67, v68, v69, v70, v71, v72, v73, rfl, ?_⟩
                  exact ⟨fun e => K0.out (hne.out 0 (by decide) e), fun e => K1.out (hne.out 1 (by decide) e), fun e => K2.out (hne.out 2 (by decide) e), fun e => K3.out (hne.out 3 (by decide) e), fun e => K4.out (hne.out 4 (by decide) e), fun e => K5.out (hne.out 5 (by decide) e), fun e => K6.out (hne.out 6 (by decide) e), fun e => K7.out (hne.out 7 (by decide) e), fun e => K8.out (hne.out 8 (by decide) e), fun _ => rfl, fun e => K10.out (hne.out 10 (by decide) e), fun e => K11.out (hne.out 11 (by decide) e), fun e => K12.out (hne.out 12 (by decide) e), fun e => K13.out (hne.out 13 (by decide) e), fun e => K14.out (hne.out 14 (by decide) e), fun e => K15.out (hne.out 15 (by decide) e), fun e => K16.out (hne.out 16 (by decide) e), fun e => K17.out (hne.out 17 (by decide) e), fun e => K18.out (hne.out 18 (by decide) e), fun e => K19.out (hne.out 19 (by decide) e), hB⟩
                · cases ho
                  have d8 := hd ⟨8, .guard⟩ (by simp) rfl
                  obtain rfl := K8.out d8
                  refine wpOp_step rfl (fun K hK => ?_)
                  go_simp
                  refine hK _ _ ⟨by simpa using hz, v54, v55, v56, v57, v58, v59, v60, v61, .bool false, v63, .int .i64 0, v65, v66, v67, v68, v69, v70, v71, v72, v73, rfl, ?_⟩
                  exact ⟨fun e => K0.out (hne.out 0 (by decide) e), fun e => K1.out (hne.out 1 (by decide) e), fun e => K2.out (hne.out 2 (by decide) e), fun e => K3.out (hne.out 3 (by decide) e), fun e => K4.out (hne.out 4 (by decide) e), fun e => K5.out (hne.out 5 (by decide) e), fun e => K6.out (hne.out 6 (by decide) e), fun e => K7.out (hne.out 7 (by decide) e), fun e => K8.out (hne.out 8 (by decide) e), fun e => K9.out (hne.out 9 (by decide) e), fun _ => rfl, fun e => K11.out (hne.out 11 (by decide) e), fun e => K12.out (hne.out 12 (by decide) e), fun e => K13.out (hne.out 13 (by decide) e), fun e => K14.out (hne.out 14 (by decide) e), fun e => K15.out (hne.out 15 (by decide) e), fun e => K16.out (hne.out 16 (by decide) e), fun e => K17.out (hne.out 17 (by decide) e), fun e => K18.out (hne.out 18 (by decide) e), fun e => K19.out (hne.out 19 (by decide) e), hB⟩
                · cases ho
                  have d8 := hd ⟨8, .guard⟩ (by simp) rfl
                  obtain rfl := K8.out d8
                  refine wpOp_step rfl (fun K hK => ?_)
                  go_simp
                  refine hK _ _ ⟨by simpa using hz, v54, v55, v56, v57, v58, v59, v60, v61, .bool false, v63, v64, .pointer (some ⟨G, 2, none⟩), v66, v67, v68, v69, v70, v71, v72, v73, rfl, ?_⟩
                  exact ⟨fun e => K0.out (hne.out 0 (by decide) e), fun e => K1.out (hne.out 1 (by decide) e), fun e => K2.out (hne.out 2 (by decide) e), fun e => K3.out (hne.out 3 (by decide) e), fun e => K4.out (hne.out 4 (by decide) e), fun e => K5.out (hne.out 5 (by decide) e), fun e => K6.out (hne.out 6 (by decide) e), fun e => K7.out (hne.out 7 (by decide) e), fun e => K8.out (hne.out 8 (by decide) e), fun e => K9.out (hne.out 9 (by decide) e), fun e => K10.out (hne.out 10 (by decide) e), fun _ => rfl, fun e => K12.out (hne.out 12 (by decide) e), fun e => K13.out (hne.out 13 (by decide) e), fun e => K14.out (hne.out 14 (by decide) e), fun e => K15.out (hne.out 15 (by decide) e), fun e => K16.out (hne.out 16 (by decide) e), fun e => K17.out (hne.out 17 (by decide) e), fun e => K18.out (hne.out 18 (by decide) e), fun e => K19.out (hne.out 19 (by decide) e), hB⟩
                · cases ho
                  have d11 := hd ⟨11, .data⟩ (by simp) rfl
                  have d10 := hd ⟨10, .data⟩ (by simp) rfl
                  have d8 := hd ⟨8, .guard⟩ (by simp) rfl
                  obtain rfl := K11.out d11
                  obtain rfl := K10.out d10
                  obtain rfl := K8.out d8
                  refine wpOp_step rfl (fun K hK => ?_)
                  go_simp
                  refine hK _ _ ⟨by simpa using hz, v54, v55, v56, v57, v58, v59, v60, v61, .bool false, v63, .int .i64 0, .pointer (some ⟨G, 2, none⟩), .pointer (some ⟨G, 2, none⟩), v67, v68, v69, v70, v71, v72, v73, rfl, ?_⟩
                  exact ⟨fun e => K0.out (hne.out 0 (by decide) e), fun e => K1.out (hne.out 1 (by decide) e), fun e => K2.out (hne.out 2 (by decide) e), fun e => K3.out (hne.out 3 (by decide) e), fun e => K4.out (hne.out 4 (by decide) e), fun e => K5.out (hne.out 5 (by decide) e), fun e => K6.out (hne.out 6 (by decide) e), fun e => K7.out (hne.out 7 (by decide) e), fun e => K8.out (hne.out 8 (by decide) e), fun e => K9.out (hne.out 9 (by decide) e), fun e => K10.out (hne.out 10 (by decide) e), fun e => K11.out (hne.out 11 (by decide) e), fun _ => rfl, fun e => K13.out (hne.out 13 (by decide) e), fun e => K14.out (hne.out 14 (by decide) e), fun e => K15.out (hne.out 15 (by decide) e), fun e => K16.out (hne.out 16 (by decide) e), fun e => K17.out (hne.out 17 (by decide) e), fun e => K18.out (hne.out 18 (by decide) e), fun e => K19.out (hne.out 19 (by decide) e), hB⟩
                · cases ho
                  have d12 := hd ⟨12, .data⟩ (by simp) rfl
                  have d8 := hd ⟨8, .guard⟩ (by simp) rfl
                  obtain rfl := K12.out d12
                  obtain rfl := K8.out d8
                  obtain ⟨_, e0, e1, e2, e3, e4, e5, e6, e7, e8, e9⟩ := hOk.out wx hB
                  refine wpOp_step rfl (fun K hK => ?_)
                  go_simp
                  refine hK _ _ ⟨by simpa using hz, v54, v55, v56, v57, v58, v59, v60, v61, .bool false, v63, v64, v65, .pointer (some ⟨G, 2, none⟩), .int .i64 (j : Int), v68, v69, v70, v71, v72, v73, rfl, ?_⟩
                  exact ⟨fun e => K0.out (hne.out 0 (by decide) e), fun e => K1.out (hne.out 1 (by decide) e), fun e => K2.out (hne.out 2 (by decide) e), fun e => K3.out (hne.out 3 (by decide) e), fun e => K4.out (hne.out 4 (by decide) e), fun e => K5.out (hne.out 5 (by decide) e), fun e => K6.out (hne.out 6 (by decide) e), fun e => K7.out (hne.out 7 (by decide) e), fun e => K8.out (hne.out 8 (by decide) e), fun e => K9.out (hne.out 9 (by decide) e), fun e => K10.out (hne.out 10 (by decide) e), fun e => K11.out (hne.out 11 (by decide) e), fun e => K12.out (hne.out 12 (by decide) e), fun _ => rfl, fun e => K14.out (hne.out 14 (by decide) e), fun e => K15.out (hne.out 15 (by decide) e), fun e => K16.out (hne.out 16 (by decide) e), fun e => K17.out (hne.out 17 (by decide) e), fun e => K18.out (hne.out 18 (by decide) e), fun e => K19.out (hne.out 19 (by decide) e), hB⟩
                · cases ho
                  have d9 := hd ⟨9, .data⟩ (by simp) rfl
                  have d13 := hd ⟨13, .data⟩ (by simp) rfl
                  have d8 := hd ⟨8, .guard⟩ (by simp) rfl
                  obtain rfl := K9.out d9
                  obtain rfl := K13.out d13
                  obtain rfl := K8.out d8
                  have hj0 : (0 : Int) ≤ (j : Int) := by omega
                  have hj1 : (j : Int) < (n : Int) := by omega
                  refine wpOp_step rfl (fun K hK => ?_)
                  go_simp
                  refine hK _ _ ⟨by simpa using hz, v54, v55, v56, v57, v58, v59, v60, v61, .bool false, .slice (some ⟨g, off, none⟩) n c, v64, v65, v66, .int .i64 (j : Int), .pointer (some ⟨g, off + j * 5, none⟩), v69, v70, v71, v72, v73, rfl, ?_⟩
                  exact ⟨fun e => K0.out (hne.out 0 (by decide) e), fun e => K1.out (hne.out 1 (by decide) e), fun e => K2.out (hne.out 2 (by decide) e), fun e => K3.out (hne.out 3 (by decide) e), fun e => K4.out (hne.out 4 (by decide) e), fun e => K5.out (hne.out 5 (by decide) e), fun e => K6.out (hne.out 6 (by decide) e), fun e => K7.out (hne.out 7 (by decide) e), fun e => K8.out (hne.out 8 (by decide) e), fun e => K9.out (hne.out 9 (by decide) e), fun e => K10.out (hne.out 10 (by decide) e), fun e => K11.out (hne.out 11 (by decide) e), fun e => K12.out (hne.out 12 (by decide) e), fun e => K13.out (hne.out 13 (by decide) e), fun _ => rfl, fun e => K15.out (hne.out 15 (by decide) e), fun e => K16.out (hne.out 16 (by decide) e), fun e => K17.out (hne.out 17 (by decide) e), fun e => K18.out (hne.out 18 (by decide) e), fun e => K19.out (hne.out 19 (by decide) e), hB⟩
                · cases ho
                  have d14 := hd ⟨14, .data⟩ (by simp) rfl
                  have d8 := hd ⟨8, .guard⟩ (by simp) rfl
                  obtain rfl := K14.out d14
                  obtain rfl := K8.out d8
                  obtain ⟨_, e0, e1, e2, e3, e4, e5, e6, e7, e8, e9⟩ := hOk.out wx hB
                  refine wpOp_step rfl (fun K hK => ?_)
                  go_simp
                  refine hK _ _ ⟨by simpa using hz, v54, v55, v56, v57, v58, v59, v60, v61, .bool false, v63, v64, v65, v66, v67, .pointer (some ⟨g, off + j * 5, none⟩), .agg #[.int .i64 d.v, .int .i64 d.n, .int .i64 d.a, .int .i64 d.b, .int .i64 d.c], v70, v71, v72, v73, rfl, ?_⟩
                  exact ⟨fun e => K0.out (hne.out 0 (by decide) e), fun e => K1.out (hne.out 1 (by decide) e), fun e => K2.out (hne.out 2 (by decide) e), fun e => K3.out (hne.out 3 (by decide) e), fun e => K4.out (hne.out 4 (by decide) e), fun e => K5.out (hne.out 5 (by decide) e), fun e => K6.out (hne.out 6 (by decide) e), fun e => K7.out (hne.out 7 (by decide) e), fun e => K8.out (hne.out 8 (by decide) e), fun e => K9.out (hne.out 9 (by decide) e), fun e => K10.out (hne.out 10 (by decide) e), fun e => K11.out (hne.out 11 (by decide) e), fun e => K12.out (hne.out 12 (by decide) e), fun e => K13.out (hne.out 13 (by decide) e), fun e => K14.out (hne.out 14 (by decide) e), fun _ => rfl, fun e => K16.out (hne.out 16 (by decide) e), fun e => K17.out (hne.out 17 (by decide) e), fun e => K18.out (hne.out 18 (by decide) e), fun e => K19.out (hne.out 19 (by decide) e), hB⟩
                · cases ho
                  have d15 := hd ⟨15, .data⟩ (by simp) rfl
                  have d8 := hd ⟨8, .guard⟩ (by simp) rfl
                  obtain rfl := K15.out d15
                  obtain rfl := K8.out d8
                  refine wpOp_step rfl (fun K hK => ?_)
                  go_simp
                  go_at_call 67
                  refine (cL.out _).mono ?_
                  rintro e w3 ⟨rfl, hb3⟩
                  refine hK _ _ ⟨by simpa using hz, v54, v55, v56, v57, v58, v59, v60, v61, .bool false, v63, v64, v65, v66, v67, v68, .agg #[.int .i64 d.v, .int .i64 d.n, .int .i64 d.a, .int .i64 d.b, .int .i64 d.c], .int .i64 d.lev, v71, v72, v73, rfl, ?_⟩
                  exact ⟨fun e => K0.out (hne.out 0 (by decide) e), fun e => K1.out (hne.out 1 (by decide) e), fun e => K2.out (hne.out 2 (by decide) e), fun e => K3.out (hne.out 3 (by decide) e), fun e => K4.out (hne.out 4 (by decide) e), fun e => K5.out (hne.out 5 (by decide) e), fun e => K6.out (hne.out 6 (by decide) e), fun e => K7.out (hne.out 7 (by decide) e), fun e => K8.out (hne.out 8 (by decide) e), fun e => K9.out (hne.out 9 (by decide) e), fun e => K10.out (hne.out 10 (by decide) e), fun e => K11.out (hne.out 11 (by decide) e), fun e => K12.out (hne.out 12 (by decide) e), fun e => K13.out (hne.out 13 (by decide) e), fun e => K14.out (hne.out 14 (by decide) e), fun e => K15.out (hne.out 15 (by decide) e), fun _ => rfl, fun e => K17.out (hne.out 17 (by decide) e), fun e => K18.out (hne.out 18 (by decide) e), fun e => K19.out (hne.out 19 (by decide) e), hB.trans (hb3.mono hB.size)⟩
                · cases ho
                  have d8 := hd ⟨8, .guard⟩ (by simp) rfl
                  obtain rfl := K8.out d8
                  refine wpOp_step rfl (fun K hK => ?_)
                  go_simp
                  refine hK _ _ ⟨by simpa using hz, v54, v55, v56, v57, v58, v59, v60, v61, .bool false, v63, v64, v65, v66, v67, v68, v69, v70, .pointer (some ⟨G, 0, none⟩), v72, v73, rfl, ?_⟩
                  exact ⟨fun e => K0.out (hne.out 0 (by decide) e), fun e => K1.out (hne.out 1 (by decide) e), fun e => K2.out (hne.out 2 (by decide) e), fun e => K3.out (hne.out 3 (by decide) e), fun e => K4.out (hne.out 4 (by decide) e), fun e => K5.out (hne.out 5 (by decide) e), fun e => K6.out (hne.out 6 (by decide) e), fun e => K7.out (hne.out 7 (by decide) e), fun e => K8.out (hne.out 8 (by decide) e), fun e => K9.out (hne.out 9 (by decide) e), fun e => K10.out (hne.out 10 (by decide) e), fun e => K11.out (hne.out 11 (by decide) e), fun e => K12.out (hne.out 12 (by decide) e), fun e => K13.out (hne.out 13 (by decide) e), fun e => K14.out (hne.out 14 (by decide) e), fun e => K15.out (hne.out 15 (by decide) e), fun e => K16.out (hne.out 16 (by decide) e), fun _ => rfl, fun e => K18.out (hne.out 18 (by decide) e), fun e => K19.out (hne.out 19 (by decide) e), hB⟩
                · cases ho
                  have d17 := hd ⟨17, .data⟩ (by simp) rfl
                  have d8 := hd ⟨8, .guard⟩ (by simp) rfl
                  obtain rfl := K17.out d17
                  obtain rfl := K8.out d8
                  obtain ⟨_, e0, e1, e2, e3, e4, e5, e6, e7, e8, e9⟩ := hOk.out wx hB
                  refine wpOp_step rfl (fun K hK => ?_)
                  go_simp
                  refine hK _ _ ⟨by simpa using hz, v54, v55, v56, v57, v58, v59, v60, v61, .bool false, v63, v64, v65, v66, v67, v68, v69, v70, .pointer (some ⟨G, 0, none⟩), .int .i64 s.v, v73, rfl, ?_⟩
                  exact ⟨fun e => K0.out (hne.out 0 (by decide) e), fun e => K1.out (hne.out 1 (by decide) e), fun e => K2.out (hne.out 2 (by decide) e), fun e => K3.out (hne.out 3 (by decide) e), fun e => K4.out (hne.out 4 (by decide) e), fun e => K5.out (hne.out 5 (by decide) e), fun e => K6.out (hne.out 6 (by decide) e), fun e => K7.out (hne.out 7 (by decide) e), fun e => K8.out (hne.out 8 (by decide) e), fun e => K9.out (hne.out 9 (by decide) e), fun e => K10.out (hne.out 10 (by decide) e), fun e => K11.out (hne.out 11 (by decide) e), fun e => K12.out (hne.out 12 (by decide) e), fun e => K13.out (hne.out 13 (by decide) e), fun e => K14.out (hne.out 14 (by decide) e), fun e => K15.out (hne.out 15 (by decide) e), fun e => K16.out (hne.out 16 (by decide) e), fun e => K17.out (hne.out 17 (by decide) e), fun _ => rfl, fun e => K19.out (hne.out 19 (by decide) e), hB⟩
                · cases ho
                  have d16 := hd ⟨16, .data⟩ (by simp) rfl
                  have d18 := hd ⟨18, .data⟩ (by simp) rfl
                  have d8 := hd ⟨8, .guard⟩ (by simp) rfl
                  obtain rfl := K16.out d16
                  obtain rfl := K18.out d18
                  obtain rfl := K8.out d8
                  refine wpOp_step rfl (fun K hK => ?_)
                  go_simp
                  refine hK _ _ ⟨by simpa using hz, v54, v55, v56, v57, v58, v59, v60, v61, .bool false, v63, v64, v65, v66, v67, v68, v69, .int .i64 d.lev, v71, .int .i64 s.v, .bool (decide (d.lev ≤ s.v)), rfl, ?_⟩
                  exact ⟨fun e => K0.out (hne.out 0 (by decide) e), fun e => K1.out (hne.out 1 (by decide) e), fun e => K2.out (hne.out 2 (by decide) e), fun e => K3.out (hne.out 3 (by decide) e), fun e => K4.out (hne.out 4 (by decide) e), fun e => K5.out (hne.out 5 (by decide) e), fun e => K6.out (hne.out 6 (by decide) e), fun e => K7.out (hne.out 7 (by decide) e), fun e => K8.out (hne.out 8 (by decide) e), fun e => K9.out (hne.out 9 (by decide) e), fun e => K10.out (hne.out 10 (by decide) e), fun e => K11.out (hne.out 11 (by decide) e), fun e => K12.out (hne.out 12 (by decide) e), fun e => K13.out (hne.out 13 (by decide) e), fun e => K14.out (hne.out 14 (by decide) e), fun e => K15.out (hne.out 15 (by decide) e), fun e => K16.out (hne.out 16 (by decide) e), fun e => K17.out (hne.out 17 (by decide) e), fun e => K18.out (hne.out 18 (by decide) e), fun _ => rfl, hB⟩
              case hl =>
                rintro listed aq wx ⟨hz, v54, v55, v56, v57, v58, v59, v60, v61, v62, v63, v64, v65, v66, v67, v68, v69, v70, v71, v72, v73, rfl, hII⟩ hall
                have K0 := Lib.hid hII.1
                have K1 := Lib.hid hII.2.1
                have K2 := Lib.hid hII.2.2.1
                have K3 := Lib.hid hII.2.2.2.1
                have K4 := Lib.hid hII.2.2.2.2.1
                have K5 := Lib.hid hII.2.2.2.2.2.1
                have K6 := Lib.hid hII.2.2.2.2.2.2.1
                have K7 := Lib.hid hII.2.2.2.2.2.2.2.1
                have K8 := Lib.hid hII.2.2.2.2.2.2.2.2.1
                have K9 := Lib.hid hII.2.2.2.2.2.2.2.2.2.1
                have K10 := Lib.hid hII.2.2.2.2.2.2.2.2.2.2.1
                have K11 := Lib.hid hII.2.2.2.2.2.2.2.2.2.2.2.1
                have K12 := Lib.hid hII.2.2.2.2.2.2.2.2.2.2.2.2.1
                have K13 := Lib.hid hII.2.2.2.2.2.2.2.2.2.2.2.2.2.1
                have K14 := Lib.hid hII.2.2.2.2.2.2.2.2.2.2.2.2.2.2.1
                have K15 := Lib.hid hII.2.2.2.2.2.2.2.2.2.2.2.2.2.2.2.1
                have K16 := Lib.hid hII.2.2.2.2.2.2.2.2.2.2.2.2.2.2.2.2.1
                have K17 := Lib.hid hII.2.2.2.2.2.2.2.2.2.2.2.2.2.2.2.2.2.1
                have K18 := Lib.hid hII.2.2.2.2.2.2.2.2.2.2.2.2.2.2.2.2.2.2.1
                have K19 := Lib.hid hII.2.2.2.2.2.2.2.2.2.2.2.2.2.2.2.2.2.2.2.1
                have hB : Below wq.heap.size wq wx := hII.2.2.2.2.2.2.2.2.2.2.2.2.2.2.2.2.2.2.2.2
                clear hII
                obtain rfl := K0.out (hall 0 (by decide))
                obtain rfl := K1.out (hall 1 (by decide))
                obtain rfl := K2.out (hall 2 (by decide))
                obtain rfl := K3.out (hall 3 (by decide))
                obtain rfl := K4.out (hall 4 (by decide))
                obtain rfl := K5.out (hall 5 (by decide))
                obtain rfl := K6.out (hall 6 (by decide))
                obtain rfl := K7.out (hall 7 (by decide))
                obtain rfl := K8.out (hall 8 (by decide))
                obtain rfl := K9.out (hall 9 (by decide))
                obtain rfl := K10.out (hall 10 (by decide))
                obtain rfl := K11.out (hall 11 (by decide))
                obtain rfl := K12.out (hall 12 (by decide))
                obtain rfl := K13.out (hall 13 (by decide))
                obtain rfl := K14.out (hall 14 (by decide))
                obtain rfl := K15.out (hall 15 (by decide))
                obtain rfl := K16.out (hall 16 (by decide))
                obtain rfl := K17.out (hall 17 (by decide))
                obtain rfl := K18.out (hall 18 (by decide))
                obtain rfl := K19.out (hall 19 (by decide))
                clear hall K0 K1 K2 K3 K4 K5 K6 K7 K8 K9 K10 K11 K12 K13 K14 K15 K16 K17 K18 K19
                refine wpOp_step rfl (fun K0 hK0 => ?_)
                go_simp
                refine hK0 _ _ ?_
                clear hK0
                have hBn := Lib.hid (hB2.out.trans (hB.mono (by omega)))
                have hLn := Lib.hid (hLr.out.trans (hB.mono hzr))
                clear hB
                cases hdd : decide (d.lev ≤ s.v)
                · have hT := Lib.hid (show kOk (ds.take k) s.v s.a = true by rw [hKq.out, hdd]; rfl)
                  go_wp2_with fail
                  exact ⟨⟨hLn.out, .inr (.inl ⟨rfl, hT.out⟩)⟩, by simp [intOf]⟩
                · have hT : kOk (ds.take k) s.v s.a = false := by rw [hKq.out, hdd]; rfl
                  have hFF := Lib.hid (hF.out (show cOk s (ds.take k) = false by rw [hR.out, hT, Bool.false_and, Bool.false_and]))
                  clear hT
                  go_wp2_with fail
                  go_ret
                  exact ⟨ret_bool hFF.out, hBn.out⟩
            · have hK : kOk (ds.take k) s.v s.a = false := by rw [hKd.out, q3, Bool.false_and]
              rw [q3] at cI
              have hFF := Lib.hid (hF.out (by rw [hR.out, hK, Bool.false_and, Bool.false_and]))
              have hxc := hWr.out.cell
              have hw1 : IntKind.i64.wrap ((k : Int) - 1) = (k : Int) - 1 := by rw [IntKind.wrap_i64]; omega
              clear hK q1 q3
              go_wp2_with fail
              go_quiet ((go_at_call 65; exact Calls.quiet_of_same ((cI.out _).mono fun _ _ h => ⟨h.1, h.2.symm⟩)))
              go_wp2_with fail
              go_ret
              exact ⟨ret_bool hFF.out, below_drewN hB2.out _⟩
          · have cI := Lib.hid (fun wx => l1In_any s.b 0 ((k : Int) - 1) wx)
            rcases inB_cases s.b 0 ((k : Int) - 1) with ⟨q1, q2, q3⟩ | ⟨q1, q3⟩
            · obtain ⟨j, hj⟩ : ∃ j : Nat, s.b = j := ⟨_, (Int.toNat_of_nonneg q1).symm⟩
              have hjk : j < k := by omega
              obtain ⟨g', off', eA, hg', hat⟩ := hHr.out.gt_ (k := j) (by omega)
              injection eA with eA
              injection eA with eA1 eA2 _
              subst eA1 eA2
              have hgz : g < wq.heap.size := by omega
              obtain ⟨c0, c1, c2, c3, c4⟩ := hat.open_
              have hge := allOk_ge hAll.out hjk
              have hKq := Lib.hid (show kOk (ds.take k) s.v s.b = !(decide ((gt ds j).lev ≤ s.v)) by
                rw [hKd.out, q3, Bool.true_and, hj, Int.toNat_natCast, gt_take hjk, ← decide_not]
                exact decide_eq_decide.2 (by omega))
              rw [q3, hj] at cI
              generalize gt ds j = d at *
              have cL := Lib.hid (fun wx => l11Level_any d hge wx)
              have hOk := Lib.hid (fun (wx : World) (hx : Below wq.heap.size wq wx) => (show Below wq.heap.size wq wx ∧ wx.cell? ⟨G, 0, none⟩ = some (.int .i64 s.v) ∧ wx.cell? ⟨G, 1, none⟩ = some (.int .i64 s.n) ∧ wx.cell? ⟨G, 2, none⟩ = some (.int .i64 s.a) ∧ wx.cell? ⟨G, 3, none⟩ = some (.int .i64 (j : Int)) ∧ wx.cell? ⟨G, 4, none⟩ = some (.int .i64 s.c) ∧ wx.cell? ⟨g, off + j * 5, none⟩ = some (.int .i64 d.v) ∧ wx.cell? ⟨g, off + j * 5 + 1, none⟩ = some (.int .i64 d.n) ∧ wx.cell? ⟨g, off + j * 5 + 2, none⟩ = some (.int .i64 d.a) ∧ wx.cell? ⟨g, off + j * 5 + 3, none⟩ = some (.int .i64 d.b) ∧ wx.cell? ⟨g, off + j * 5 + 4, none⟩ = some (.int .i64 d.c) from ⟨hx, (hWr.out.kept hx).cell 0, (hWr.out.kept hx).cell 1, (hWr.out.kept hx).cell 2, ((hWr.out.kept hx).cell 3).trans (by rw [← hj]; rfl), (hWr.out.kept hx).cell 4, (hx.cell (p := ⟨g, off + j * 5, none⟩) (by exact hgz)).trans c0, (hx.cell (p := ⟨g, off + j * 5 + 1, none⟩) (by exact hgz)).trans c1, (hx.cell (p := ⟨g, off + j * 5 + 2, none⟩) (by exact hgz)).trans c2, (hx.cell (p := ⟨g, off + j * 5 + 3, none⟩) (by exact hgz)).trans c3, (hx.cell (p := ⟨g, off + j * 5 + 4, none⟩) (by exact hgz)).trans c4⟩))
              have hjh := Lib.hid hj
              clear c0 c1 c2 c3 c4 hat q1 q2 q3 hj hge
              go_wp2_with fail
              refine wp_region_any (by kernel_rfl) ?_
              change wpAny _ _ _ _ _ _ _ (World.drew _)
              refine wpAny_last (n := 20) (I := fun listed aq wx => listed.size = 21 ∧ ∃ v54 v55 v56 v57 v58 v59 v60 v61 v62 v63 v64 v65 v66 v67 v68 v69 v70 v71 v72 v73 : Value, aq = { tmps := #[.slice (some ⟨g, off, none⟩) n c, undef, u2, .int .i64 ↑k, .pointer (some ⟨G, 0, none⟩), .int .i64 1, .int .i64 ↑k, .slice (some ⟨g, off, none⟩) n c, .int .i64 ↑n, .bool true, u10, u11, .slice (some ⟨g, off, none⟩) n c, .int .i64 ↑k, .pointer (some ⟨g, off + k * 5, none⟩), .agg #[.int .i64 s.v, .int .i64 s.n, .int .i64 s.a, .int .i64 s.b, .int .i64 s.c], .pointer (some ⟨G, 0, none⟩), .int .i64 s.v, .bool false, u19, u20, u21, u22, u23, u24, u25, u26, u27, u28, u29, u30, u31, u32, u33, u34, u35, u36, u37, u38, u39, u40, .pointer (some ⟨G, 0, none⟩), .int .i64 s.v, .bool true, .bool false, .bool false, .pointer (some ⟨G, 1, none⟩), .int .i64 s.n, .bool false, .bool false, .int .i64 1, .bool true, u52, u53, v54, v55, v56, v57, v58, v59, v60, v61, v62, v63, v64, v65, v66, v67, v68, v69, v70, v71, v72, v73, u74, undef, undef, undef], defers := [] } ∧ (listed.getD 0 false = true → v54 = .int .i64 1) ∧ (listed.getD 1 false = true → v55 = .pointer (some ⟨G, 2, none⟩)) ∧ (listed.getD 2 false = true → v56 = .pointer (some ⟨G, 3, none⟩)) ∧ (listed.getD 3 false = true → v57 = .int .i64 (j : Int)) ∧ (listed.getD 4 false = true → v58 = .int .i64 ↑k) ∧ (listed.getD 5 false = true → v59 = .int .i64 ((k : Int) - 1)) ∧ (listed.getD 6 false = true → v60 = .bool true) ∧ (listed.getD 7 false = true → v61 = .bool false) ∧ (listed.getD 8 false = true → v62 = .bool false) ∧ (listed.getD 9 false = true → v63 = .slice (some ⟨g, off, none⟩) n c) ∧ (listed.getD 10 false = true → v64 = .int .i64 1) ∧ (listed.getD 11 false = true → v65 = .pointer (some ⟨G, 2, none⟩)) ∧ (listed.getD 12 false = true → v66 = .pointer (some ⟨G, 3, none⟩)) ∧ (listed.getD 13 false = true → v67 = .int .i64 (j : Int)) ∧ (listed.getD 14 false = true → v68 = .pointer (some ⟨g, off + j * 5, none⟩)) ∧ (listed.getD 15 false = true → v69 = .agg #[.int .i64 d.v, .int .i64 d.n, .int .i64 d.a, .int .i64 d.b, .int .i64 d.c]) ∧ (listed.getD 16 false = true → v70 = .int .i64 d.lev) ∧ (listed.getD 17 false = true → v71 = .pointer (some ⟨G, 0, none⟩)) ∧ (listed.getD 18 false = true → v72 = .int .i64 s.v) ∧ (listed.getD 19 false = true → v73 = .bool (decide (d.lev ≤ s.v))) ∧ Below wq.heap.size wq wx) rfl (by kernel_rfl) (by kernel_rfl) ?hs ?hl _ _ _ ?st rfl (by decide) _ (by decide)
              case st =>
                refine ⟨rfl, u54, u55, u56, u57, u58, u59, u60, u61, u62, u63, u64, u65, u66, u67, u68, u69, u70, u71, u72, u73, rfl, ?_, ?_, ?_, ?_, ?_, ?_, ?_, ?_, ?_, ?_, ?_, ?_, ?_, ?_, ?_, ?_, ?_, ?_, ?_, ?_, (Below.refl _ _).drew⟩ <;> (intro e; exact absurd e (by decide))
              case hs =>
                rintro listed aq wx ⟨hz, v54, v55, v56, v57, v58, v59, v60, v61, v62, v63, v64, v65, v66, v67, v68, v69, v70, v71, v72, v73, rfl, hII⟩ i hin hi
                obtain ⟨h0, o, ho, hd⟩ := mem_ready.1 hi
                have K0 := Lib.hid hII.1
                have K1 := Lib.hid hII.2.1
                have K2 := Lib.hid hII.2.2.1
                have K3 := Lib.hid hII.2.2.2.1
                have K4 := Lib.hid hII.2.2.2.2.1
                have K5 := Lib.hid hII.2.2.2.2.2.1
                have K6 := Lib.hid hII.2.2.2.2.2.2.1
                have K7 := Lib.hid hII.2.2.2.2.2.2.2.1
                have K8 := Lib.hid hII.2.2.2.2.2.2.2.2.1
                have K9 := Lib.hid hII.2.2.2.2.2.2.2.2.2.1
                have K10 := Lib.hid hII.2.2.2.2.2.2.2.2.2.2.1
                have K11 := Lib.hid hII.2.2.2.2.2.2.2.2.2.2.2.1
                have K12 := Lib.hid hII.2.2.2.2.2.2.2.2.2.2.2.2.1
                have K13 := Lib.hid hII.2.2.2.2.2.2.2.2.2.2.2.2.2.1
                have K14 := Lib.hid hII.2.2.2.2.2.2.2.2.2.2.2.2.2.2.1
                have K15 := Lib.hid hII.2.2.2.2.2.2.2.2.2.2.2.2.2.2.2.1
                have K16 := Lib.hid hII.2.2.2.2.2.2.2.2.2.2.2.2.2.2.2.2.1
                have K17 := Lib.hid hII.2.2.2.2.2.2.2.2.2.2.2.2.2.2.2.2.2.1
                have K18 := Lib.hid hII.2.2.2.2.2.2.2.2.2.2.2.2.2.2.2.2.2.2.1
                have K19 := Lib.hid hII.2.2.2.2.2.2.2.2.2.2.2.2.2.2.2.2.2.2.2.1
                have hB : Below wq.heap.size wq wx := hII.2.2.2.2.2.2.2.2.2.2.2.2.2.2.2.2.2.2.2.2
                have hne := Lib.hid (fun k (hk : i ≠ k) => @listed_ne listed i k hk)
                have h0f : listed.getD i false = false := by rw [Array.getD_eq_getD_getElem?, getD_false h0]; rfl
                clear hII hi h0
                rcases (by omega : i = 0 ∨ i = 1 ∨ i = 2 ∨ i = 3 ∨ i = 4 ∨ i = 5 ∨ i = 6 ∨ i = 7 ∨ i = 8 ∨ i = 9 ∨ i = 10 ∨ i = 11 ∨ i = 12 ∨ i = 13 ∨ i = 14 ∨ i = 15 ∨ i = 16 ∨ i = 17 ∨ i = 18 ∨ i = 19) with rfl | rfl | rfl | rfl | rfl | rfl | rfl | rfl | rfl | rfl | rfl | rfl | rfl | rfl | rfl | rfl | rfl | rfl | rfl | rfl
                · cases ho
                  refine wpOp_step rfl (fun K hK => ?_)
                  go_simp
                  refine hK _ _ ⟨by simpa using hz, .int .i64 1, v55, v56, v57, v58, v59, v60, v61, v62, v63, v64, v65, v66, v67, v68, v69, v70, v71, v72, v73, rfl, ?_⟩
                  exact ⟨fun _ => rfl, fun e => K1.out (hne.out 1 (by decide) e), fun e => K2.out (hne.out 2 (by decide) e), fun e => K3.out (hne.out 3 (by decide) e), fun e => K4.out (hne.out 4 (by decide) e), fun e => K5.out (hne.out 5 (by decide) e), fun e => K6.out (hne.out 6 (by decide) e), fun e => K7.out (hne.out 7 (by decide) e), fun e => K8.out (hne.out 8 (by decide) e), fun e => K9.out (hne.out 9 (by decide) e), fun e => K10.out (hne.out 10 (by decide) e), fun e => K11.out (hne.out 11 (by decide) e), fun e => K12.out (hne.out 12 (by decide) e), fun e => K13.out (hne.out 13 (by decide) e), fun e => K14.out (hne.out 14 (by decide) e), fun e => K15.out (hne.out 15 (by decide) e), fun e => K16.out (hne.out 16 (by decide) e), fun e => K17.out (hne.out 17 (by decide) e), fun e => K18.out (hne.out 18 (by decide) e), fun e => K19.out (hne.out 19 (by decide) e), hB⟩
                · cases ho
                  refine wpOp_step rfl (fun K hK => ?_)
                  go_simp
                  refine hK _ _ ⟨by simpa using hz, v54, .pointer (some ⟨G, 2, none⟩), v56, v57, v58, v59, v60, v61, v62, v63, v64, v65, v66, v67, v68, v69, v70, v71, v72, v73, rfl, ?_⟩
                  exact ⟨fun e => K0.out (hne.out 0 (by decide) e), fun _ => rfl, fun e => K2.out (hne.out 2 (by decide) e), fun e => K3.out (hne.out 3 (by decide) e), fun e => K4.out (hne.out 4 (by decide) e), fun e => K5.out (hne.out 5 (by decide) e), fun e => K6.out (hne.out 6 (by decide) e), fun e => K7.out (hne.out 7 (by decide) e), fun e => K8.out (hne.out 8 (by decide) e), fun e => K9.out (hne.out 9 (by decide) e), fun e => K10.out (hne.out 10 (by decide) e), fun e => K11.out (hne.out 11 (by decide) e), fun e => K12.out (hne.out 12 (by decide) e), fun e => K13.out (hne.out 13 (by decide) e), fun e => K14.out (hne.out 14 (by decide) e), fun e => K15.out (hne.out 15 (by decide) e), fun e => K16.out (hne.out 16 (by decide) e), fun e => K17.out (hne.out 17 (by decide) e), fun e => K18.out (hne.out 18 (by decide) e), fun e => K19.out (hne.out 19 (by decide) e), hB⟩
                · cases ho
                  have d1 := hd ⟨1, .data⟩ (by simp) rfl
                  have d0 := hd ⟨0, .data⟩ (by simp) rfl
                  obtain rfl := K1.out d1
                  obtain rfl := K0.out d0
                  refine wpOp_step rfl (fun K hK => ?_)
                  go_simp
                  refine hK _ _ ⟨by simpa using hz, .int .i64 1, .pointer (some ⟨G, 2, none⟩), .pointer (some ⟨G, 3, none⟩), v57, v58, v59, v60, v61, v62, v63, v64, v65, v66, v67, v68, v69, v70, v71, v72, v73, rfl, ?_⟩
                  exact ⟨fun e => K0.out (hne.out 0 (by decide) e), fun e => K1.out (hne.out 1 (by decide) e), fun _ => rfl, fun e => K3.out (hne.out 3 (by decide) e), fun e => K4.out (hne.out 4 (by decide) e), fun e => K5.out (hne.out 5 (by decide) e), fun e => K6.out (hne.out 6 (by decide) e), fun e => K7.out (hne.out 7 (by decide) e), fun e => K8.out (hne.out 8 (by decide) e), fun e => K9.out (hne.out 9 (by decide) e), fun e => K10.out (hne.out 10 (by decide) e), fun e => K11.out (hne.out 11 (by decide) e), fun e => K12.out (hne.out 12 (by decide) e), fun e => K13.out (hne.out 13 (by decide) e), fun e => K14.out (hne.out 14 (by decide) e), fun e => K15.out (hne.out 15 (by decide) e), fun e => K16.out (hne.out 16 (by decide) e), fun e => K17.out (hne.out 17 (by decide) e), fun e => K18.out (hne.out 18 (by decide) e), fun e => K19.out (hne.out 19 (by decide) e), hB⟩
                · cases ho
                  have d2 := hd ⟨2, .data⟩ (by simp) rfl
                  obtain rfl := K2.out d2
                  obtain ⟨_, e0, e1, e2, e3, e4, e5, e6, e7, e8, e9⟩ := hOk.out wx hB
                  refine wpOp_step rfl (fun K hK => ?_)
                  go_simp
                  refine hK _ _ ⟨by simpa using hz, v54, v55, .pointer (some ⟨G, 3, none⟩), .int .i64 (j : Int), v58, v59, v60, v61, v62, v63, v64, v65, v66, v67, v68, v69, v70, v71, v72, v73, rfl, ?_⟩
                  exact ⟨fun e => K0.out (hne.out 0 (by decide) e), fun e => K1.out (hne.out 1 (by decide) e), fun e => K2.out (hne.out 2 (by decide) e), fun _ => rfl, fun e => K4.out (hne.out 4 (by decide) e), fun e => K5.out (hne.out 5 (by decide) e), fun e => K6.out (hne.out 6 (by decide) e), fun e => K7.out (hne.out 7 (by decide) e), fun e => K8.out (hne.out 8 (by decide) e), fun e => K9.out (hne.out 9 (by decide) e), fun e => K10.out (hne.out 10 (by decide) e), fun e => K11.out (hne.out 11 (by decide) e), fun e => K12.out (hne.out 12 (by decide) e), fun e => K13.out (hne.out 13 (by decide) e), fun e => K14.out (hne.out 14 (by decide) e), fun e => K15.out (hne.out 15 (by decide) e), fun e => K16.out (hne.out 16 (by decide) e), fun e => K17.out (hne.out 17 (by decide) e), fun e => K18.out (hne.out 18 (by decide) e), fun e => K19.out (hne.out 19 (by decide) e), hB⟩
                · cases ho
                  refine wpOp_step rfl (fun K hK => ?_)
                  go_simp
                  refine hK _ _ ⟨by simpa using hz, v54, v55, v56, v57, .int .i64 ↑k, v59, v60, v61, v62, v63, v64, v65, v66, v67, v68, v69, v70, v71, v72, v73, rfl, ?_⟩
                  exact ⟨fun e => K0.out (hne.out 0 (by decide) e), fun e => K1.out (hne.out 1 (by decide) e), fun e => K2.out (hne.out 2 (by decide) e), fun e => K3.out (hne.out 3 (by decide) e), fun _ => rfl, fun e => K5.out (hne.out 5 (by decide) e), fun e => K6.out (hne.out 6 (by decide) e), fun e => K7.out (hne.out 7 (by decide) e), fun e => K8.out (hne.out 8 (by decide) e), fun e => K9.out (hne.out 9 (by decide) e), fun e => K10.out (hne.out 10 (by decide) e), fun e => K11.out (hne.out 11 (by decide) e), fun e => K12.out (hne.out 12 (by decide) e), fun e => K13.out (hne.out 13 (by decide) e), fun e => K14.out (hne.out 14 (by decide) e), fun e => K15.out (hne.out 15 (by decide) e), fun e => K16.out (hne.out 16 (by decide) e), fun e => K17.out (hne.out 17 (by decide) e), fun e => K18.out (hne.out 18 (by decide) e), fun e => K19.out (hne.out 19 (by decide) e), hB⟩
                · cases ho
                  have d4 := hd ⟨4, .data⟩ (by simp) rfl
                  obtain rfl := K4.out d4
                  have hw1 : IntKind.i64.wrap ((k : Int) - 1) = (k : Int) - 1 := by rw [IntKind.wrap_i64]; omega
                  refine wpOp_step rfl (fun K hK => ?_)
                  go_simp
                  refine hK _ _ ⟨by simpa using hz, v54, v55, v56, v57, .int .i64 ↑k, .int .i64 ((k : Int) - 1), v60, v61, v62, v63, v64, v65, v66, v67, v68, v69, v70, v71, v72, v73, rfl, ?_⟩
                  exact ⟨fun e => K0.out (hne.out 0 (by decide) e), fun e => K1.out (hne.out 1 (by decide) e), fun e => K2.out (hne.out 2 (by decide) e), fun e => K3.out (hne.out 3 (by decide) e), fun e => K4.out (hne.out 4 (by decide) e), fun _ => rfl, fun e => K6.out (hne.out 6 (by decide) e), fun e => K7.out (hne.out 7 (by decide) e), fun e => K8.out (hne.out 8 (by decide) e), fun e => K9.out (hne.out 9 (by decide) e), fun e => K10.out (hne.out 10 (by decide) e), fun e => K11.out (hne.out 11 (by decide) e), fun e => K12.out (hne.out 12 (by decide) e), fun e => K13.out (hne.out 13 (by decide) e), fun e => K14.out (hne.out 14 (by decide) e), fun e => K15.out (hne.out 15 (by decide) e), fun e => K16.out (hne.out 16 (by decide) e), fun e => K17.out (hne.out 17 (by decide) e), fun e => K18.out (hne.out 18 (by decide) e), fun e => K19.out (hne.out 19 (by decide) e), hB⟩
                · cases ho
                  have d3 := hd ⟨3, .data⟩ (by simp) rfl
                  have d5 := hd ⟨5, .data⟩ (by simp) rfl
                  obtain rfl := K3.out d3
                  obtain rfl := K5.out d5
                  refine wpOp_step rfl (fun K hK => ?_)
                  go_simp
                  go_at_call 65
                  refine (cI.out _).mono ?_
                  rintro e w3 ⟨rfl, rfl⟩
                  refine hK _ _ ⟨by simpa using hz, v54, v55, v56, .int .i64 (j : Int), v58, .int .i64 ((k : Int) - 1), .bool true, v61, v62, v63, v64, v65, v66, v67, v68, v69, v70, v71, v72, v73, rfl, ?_⟩
                  exact ⟨fun e => K0.out (hne.out 0 (by decide) e), fun e => K1.out (hne.out 1 (by decide) e), fun e => K2.out (hne.out 2 (by decide) e), fun e => K3.out (hne.out 3 (by decide) e), fun e => K4.out (hne.out 4 (by decide) e), fun e => K5.out (hne.out 5 (by decide) e), fun _ => rfl, fun e => K7.out (hne.out 7 (by decide) e), fun e => K8.out (hne.out 8 (by decide) e), fun e => K9.out (hne.out 9 (by decide) e), fun e => K10.out (hne.out 10 (by decide) e), fun e => K11.out (hne.out 11 (by decide) e), fun e => K12.out (hne.out 12 (by decide) e), fun e => K13.out (hne.out 13 (by decide) e), fun e => K14.out (hne.out 14 (by decide) e), fun e => K15.out (hne.out 15 (by decide) e), fun e => K16.out (hne.out 16 (by decide) e), fun e => K17.out (hne.out 17 (by decide) e), fun e => K18.out (hne.out 18 (by decide) e), fun e => K19.out (hne.out 19 (by decide) e), hB⟩
                · cases ho
                  have d6 := hd ⟨6, .data⟩ (by simp) rfl
                  obtain rfl := K6.out d6
                  refine wpOp_step rfl (fun K hK => ?_)
                  go_simp
                  refine hK _ _ ⟨by simpa using hz, v54, v55, v56, v57, v58, v59, .bool true, .bool false, v62, v63, v64, v65, v66, v67, v68, v69, v70, v71, v72, v73, rfl, ?_⟩
                  exact ⟨fun e => K0.out (hne.out 0 (by decide) e), fun e => K1.out (hne.out 1 (by decide) e), fun e => K2.out (hne.out 2 (by decide) e), fun e => K3.out (hne.out 3 (by decide) e), fun e => K4.out (hne.out 4 (by decide) e), fun e => K5.out (hne.out 5 (by decide) e), fun e => K6.out (hne.out 6 (by decide) e), fun _ => rfl, fun e => K8.out (hne.out 8 (by decide) e), fun e => K9.out (hne.out 9 (by decide) e), fun e => K10.out (hne.out 10 (by decide) e), fun e => K11.out (hne.out 11 (by decide) e), fun e => K12.out (hne.out 12 (by decide) e), fun e => K13.out (hne.out 13 (by decide) e), fun e => K14.out (hne.out 14 (by decide) e), fun e => K15.out (hne.out 15 (by decide) e), fun e => K16.out (hne.out 16 (by decide) e), fun e => K17.out (hne.out 17 (by decide) e), fun e => K18.out (hne.out 18 (by decide) e), fun e => K19.out (hne.out 19 (by decide) e), hB⟩
                · cases ho
                  have d7 := hd ⟨7, .data⟩ (by simp) rfl
                  obtain rfl := K7.out d7
                  refine wpOp_step rfl (fun K hK => ?_)
                  go_simp
                  refine hK _ _ ⟨by simpa using hz, v54, v55, v56, v57, v58, v59, v60, .bool false, .bool false, v63, v64, v65, v66, v67, v68, v69, v70, v71, v72, v73, rfl, ?_⟩
                  exact ⟨fun e => K0.out (hne.out 0 (by decide) e), fun e => K1.out (hne.out 1 (by decide) e), fun e => K2.out (hne.out 2 (by decide) e), fun e => K3.out (hne.out 3 (by decide) e), fun e => K4.out (hne.out 4 (by decide) e), fun e => K5.out (hne.out 5 (by decide) e), fun e => K6.out (hne.out 6 (by decide) e), fun e => K7.out (hne.out 7 (by decide) e), fun _ => rfl, fun e => K9.out (hne.out 9 (by decide) e), fun e => K10.out (hne.out 10 (by decide) e), fun e => K11.out (hne.out 11 (by decide) e), fun e => K12.out (hne.out 12 (by decide) e), fun e => K13.out (hne.out 13 (by decide) e), fun e => K14.out (hne.out 14 (by decide) e), fun e => K15.out (hne.out 15 (by decide) e), fun e => K16.out (hne.out 16 (by decide) e), fun e => K17.out (hne.out 17 (by decide) e), fun e => K18.out (hne.out 18 (by decide) e), fun e => K19.out (hne.out 19 (by decide) e), hB⟩
                · cases ho
                  have d8 := hd ⟨8, .guard⟩ (by simp) rfl
                  obtain rfl := K8.out d8
                  refine wpOp_step rfl (fun K hK => ?_)
                  go_simp
                  refine hK _ _ ⟨by simpa using hz, v54, v55, v56, v57, v58, v59, v60, v61, .bool false, .slice (some ⟨g, off, none⟩) n c, v64, v65, v66, v67, v68, v69, v70, v71, v72, v73, rfl, ?_⟩
                  exact ⟨fun e => K0.out (hne.out 0 (by decide) e), fun e => K1.out (hne.out 1 (by decide) e), fun e => K2.out (hne.out 2 (by decide) e), fun e => K3.out (hne.out 3 (by decide) e), fun e => K4.out (hne.out 4 (by decide) e), fun e => K5.out (hne.out 5 (by decide) e), fun e => K6.out (hne.out 6 (by decide) e), fun e => K7.out (hne.out 7 (by decide) e), fun e => K8.out (hne.out 8 (by decide) e), fun _ => rfl, fun e => K10.out (hne.out 10 (by decide) e), fun e => K11.out (hne.out 11 (by decide) e), fun e => K12.out (hne.out 12 (by decide) e), fun e => K13.out (hne.out 13 (by decide) e), fun e => K14.out (hne.out 14 (by decide) e), fun e => K15.out (hne.out 15 (by decide) e), fun e => K16.out (hne.out 16 (by decide) e), fun e => K17.out (hne.out 17 (by decide) e), fun e => K18.out (hne.out 18 (by decide) e), fun e => K19.out (hne.out 19 (by decide) e), hB⟩
                · cases ho
                  have d8 := hd ⟨8, .guard⟩ (by simp) rfl
                  obtain rfl := K8.out d8
                  refine wpOp_step rfl (fun K hK => ?_)
                  go_simp
                  refine hK _ _ ⟨by simpa using hz, v54, v55, v56, v57, v58, v59, v60, v61, .bool false, v63, .int .i64 1, v65, v66, v67, v68, v69, v70, v71, v72, v73, rfl, ?_⟩
                  exact ⟨fun e => K0.out (hne.out 0 (by decide) e), fun e => K1.out (hne.out 1 (by decide) e), fun e => K2.out (hne.out 2 (by decide) e), fun e => K3.out (hne.out 3 (by decide) e), fun e => K4.out (hne.out 4 (by decide) e), fun e => K5.out (hne.out 5 (by decide) e), fun e => K6.out (hne.out 6 (by decide) e), fun e => K7.out (hne.out 7 (by decide) e), fun e => K8.out (hne.out 8 (by decide) e), fun e => K9.out (hne.out 9 (by decide) e), fun _ => rfl, fun e => K11.out (hne.out 11 (by decide) e), fun e => K12.out (hne.out 12 (by decide) e), fun e => K13.out (hne.out 13 (by decide) e), fun e => K14.out (hne.out 14 (by decide) e), fun e => K15.out (hne.out 15 (by decide) e), fun e => K16.out (hne.out 16 (by decide) e), fun e => K17.out (hne.out 17 (by decide) e), fun e => K18.out (hne.out 18 (by decide) e), fun e => K19.out (hne.out 19 (by decide) e), hB⟩
                · cases ho
                  have d8 := hd ⟨8, .guard⟩ (by simp) rfl
                  obtain rfl := K8.out d8
                  refine wpOp_step rfl (fun K hK => ?_)
                  go_simp
                  refine hK _ _ ⟨by simpa using hz, v54, v55, v56, v57, v58, v59, v60, v61, .bool false, v63, v64, .pointer (some ⟨G, 2, none⟩), v66, v67, v68, v69, v70, v71, v72, v73, rfl, ?_⟩
                  exact ⟨fun e => K0.out (hne.out 0 (by decide) e), fun e => K1.out (hne.out 1 (by decide) e), fun e => K2.out (hne.out 2 (by decide) e), fun e => K3.out (hne.out 3 (by decide) e), fun e => K4.out (hne.out 4 (by decide) e), fun e => K5.out (hne.out 5 (by decide) e), fun e => K6.out (hne.out 6 (by decide) e), fun e => K7.out (hne.out 7 (by decide) e), fun e => K8.out (hne.out 8 (by decide) e), fun e => K9.out (hne.out 9 (by decide) e), fun e => K10.out (hne.out 10 (by decide) e), fun _ => rfl, fun e => K12.out (hne.out 12 (by decide) e), fun e => K13.out (hne.out 13 (by decide) e), fun e => K14.out (hne.out 14 (by decide) e), fun e => K15.out (hne.out 15 (by decide) e), fun e => K16.out (hne.out 16 (by decide) e), fun e => K17.out (hne.out 17 (by decide) e), fun e => K18.out (hne.out 18 (by decide) e), fun e => K19.out (hne.out 19 (by decide) e), hB⟩
                · cases ho
                  have d11 := hd ⟨11, .data⟩ (by simp) rfl
                  have d10 := hd ⟨10, .data⟩ (by simp) rfl
                  have d8 := hd ⟨8, .guard⟩ (by simp) rfl
                  obtain rfl := K11.out d11
                  obtain rfl := K10.out d10
                  obtain rfl := K8.out d8
                  refine wpOp_step rfl (fun K hK => ?_)
                  go_simp
                  refine hK _ _ ⟨by simpa using hz, v54, v55, v56, v57, v58, v59, v60, v61, .bool false, v63, .int .i64 1, .pointer (some ⟨G, 2, none⟩), .pointer (some ⟨G, 3, none⟩), v67, v68, v69, v70, v71, v72, v73, rfl, ?_⟩
                  exact ⟨fun e => K0.out (hne.out 0 (by decide) e), fun e => K1.out (hne.out 1 (by decide) e), fun e => K2.out (hne.out 2 (by decide) e), fun e => K3.out (hne.out 3 (by decide) e), fun e => K4.out (hne.out 4 (by decide) e), fun e => K5.out (hne.out 5 (by decide) e), fun e => K6.out (hne.out 6 (by decide) e), fun e => K7.out (hne.out 7 (by decide) e), fun e => K8.out (hne.out 8 (by decide) e), fun e => K9.out (hne.out 9 (by decide) e), fun e => K10.out (hne.out 10 (by decide) e), fun e => K11.out (hne.out 11 (by decide) e), fun _ => rfl, fun e => K13.out (hne.out 13 (by decide) e), fun e => K14.out (hne.out 14 (by decide) e), fun e => K15.out (hne.out 15 (by decide) e), fun e => K16.out (hne.out 16 (by decide) e), fun e => K17.out (hne.out 17 (by decide) e), fun e => K18.out (hne.out 18 (by decide) e), fun e => K19.out (hne.out 19 (by decide) e), hB⟩
                · cases ho
                  have d12 := hd ⟨12, .data⟩ (by simp) rfl
                  have d8 := hd ⟨8, .guard⟩ (by simp) rfl
                  obtain rfl := K12.out d12
                  obtain rfl := K8.out d8
                  obtain ⟨_, e0, e1, e2, e3, e4, e5, e6, e7, e8, e9⟩ := hOk.out wx hB
                  refine wpOp_step rfl (fun K hK => ?_)
                  go_simp
                  refine hK _ _ ⟨by simpa using hz, v54, v55, v56, v57, v58, v59, v60, v61, .bool false, v63, v64, v65, .pointer (some ⟨G, 3, none⟩), .int .i64 (j : Int), v68, v69, v70, v71, v72, v73, rfl, ?_⟩
                  exact ⟨fun e => K0.out (hne.out 0 (by decide) e), fun e => K1.out (hne.out 1 (by decide) e), fun e => K2.out (hne.out 2 (by decide) e), fun e => K3.out (hne.out 3 (by decide) e), fun e => K4.out (hne.out 4 (by decide) e), fun e => K5.out (hne.out 5 (by decide) e), fun e => K6.out (hne.out 6 (by decide) e), fun e => K7.out (hne.out 7 (by decide) e), fun e => K8.out (hne.out 8 (by decide) e), fun e => K9.out (hne.out 9 (by decide) e), fun e => K10.out (hne.out 10 (by decide) e), fun e => K11.out (hne.out 11 (by decide) e), fun e => K12.out (hne.out 12 (by decide) e), fun _ => rfl, fun e => K14.out (hne.out 14 (by decide) e), fun e => K15.out (hne.out 15 (by decide) e), fun e => K16.out (hne.out 16 (by decide) e), fun e => K17.out (hne.out 17 (by decide) e), fun e => K18.out (hne.out 18 (by decide) e), fun e => K19.out (hne.out 19 (by decide) e), hB⟩
                · cases ho
                  have d9 := hd ⟨9, .data⟩ (by simp) rfl
                  have d13 := hd ⟨13, .data⟩ (by simp) rfl
                  have d8 := hd ⟨8, .guard⟩ (by simp) rfl
                  obtain rfl := K9.out d9
                  obtain rfl := K13.out d13
                  obtain rfl := K8.out d8
                  have hj0 : (0 : Int) ≤ (j : Int) := by omega
                  have hj1 : (j : Int) < (n : Int) := by omega
                  refine wpOp_step rfl (fun K hK => ?_)
                  go_simp
                  refine hK _ _ ⟨by simpa using hz, v54, v55, v56, v57, v58, v59, v60, v61, .bool false, .slice (some ⟨g, off, none⟩) n c, v64, v65, v66, .int .i64 (j : Int), .pointer (some ⟨g, off + j * 5, none⟩), v69, v70, v71, v72, v73, rfl, ?_⟩
                  exact ⟨fun e => K0.out (hne.out 0 (by decide) e), fun e => K1.out (hne.out 1 (by decide) e), fun e => K2.out (hne.out 2 (by decide) e), fun e => K3.out (hne.out 3 (by decide) e), fun e => K4.out (hne.out 4 (by decide) e), fun e => K5.out (hne.out 5 (by decide) e), fun e => K6.out (hne.out 6 (by decide) e), fun e => K7.out (hne.out 7 (by decide) e), fun e => K8.out (hne.out 8 (by decide) e), fun e => K9.out (hne.out 9 (by decide) e), fun e => K10.out (hne.out 10 (by decide) e), fun e => K11.out (hne.out 11 (by decide) e), fun e => K12.out (hne.out 12 (by decide) e), fun e => K13.out (hne.out 13 (by decide) e), fun _ => rfl, fun e => K15.out (hne.out 15 (by decide) e), fun e => K16.out (hne.out 16 (by decide) e), fun e => K17.out (hne.out 17 (by decide) e), fun e => K18.out (hne.out 18 (by decide) e), fun e => K19.out (hne.out 19 (by decide) e), hB⟩
                · cases ho
                  have d14 := hd ⟨14, .data⟩ (by simp) rfl
                  have d8 := hd ⟨8, .guard⟩ (by simp) rfl
                  obtain rfl := K14.out d14
                  obtain rfl := K8.out d8
                  obtain ⟨_, e0, e1, e2, e3, e4, e5, e6, e7, e8, e9⟩ := hOk.out wx hB
                  refine wpOp_step rfl (fun K hK => ?_)
                  go_simp
                  refine hK _ _ ⟨by simpa using hz, v54, v55, v56, v57, v58, v59, v60, v61, .bool false, v63, v64, v65, v66, v67, .pointer (some ⟨g, off + j * 5, none⟩), .agg #[.int .i64 d.v, .int .i64 d.n, .int .i64 d.a, .int .i64 d.b, .int .i64 d.c], v70, v71, v72, v73, rfl, ?_⟩
                  exact ⟨fun e => K0.out (hne.out 0 (by decide) e), fun e => K1.out (hne.out 1 (by decide) e), fun e => K2.out (hne.out 2 (by decide) e), fun e => K3.out (hne.out 3 (by decide) e), fun e => K4.out (hne.out 4 (by decide) e), fun e => K5.out (hne.out 5 (by decide) e), fun e => K6.out (hne.out 6 (by decide) e), fun e => K7.out (hne.out 7 (by decide) e), fun e => K8.out (hne.out 8 (by decide) e), fun e => K9.out (hne.out 9 (by decide) e), fun e => K10.out (hne.out 10 (by decide) e), fun e => K11.out (hne.out 11 (by decide) e), fun e => K12.out (hne.out 12 (by decide) e), fun e => K13.out (hne.out 13 (by decide) e), fun e => K14.out (hne.out 14 (by decide) e), fun _ => rfl, fun e => K16.out (hne.out 16 (by decide) e), fun e => K17.out (hne.out 17 (by decide) e), fun e => K18.out (hne.out 18 (by decide) e), fun e => K19.out (hne.out 19 (by decide) e), hB⟩
                · cases ho
                  have d15 := hd ⟨15, .data⟩ (by simp) rfl
                  have d8 := hd ⟨8, .guard⟩ (by simp) rfl
                  obtain rfl := K15.out d15
                  obtain rfl := K8.out d8
                  refine wpOp_step rfl (fun K hK => ?_)
                  go_simp
                  go_at_call 67
                  refine (cL.out _).mono ?_
                  rintro e w3 ⟨rfl, hb3⟩
                  refine hK _ _ ⟨by simpa using hz, v54, v55, v56, v57, v58, v59, v60, v61, .bool false, v63, v64, v65, v66, v67, v68, .agg #[.int .i64 d.v, .int .i64 d.n, .int .i64 d.a, .int .i64 d.b, .int .i64 d.c], .int .i64 d.lev, v71, v72, v73, rfl, ?_⟩
                  exact ⟨fun e => K0.out (hne.out 0 (by decide) e), fun e => K1.out (hne.out 1 (by decide) e), fun e => K2.out (hne.out 2 (by decide) e), fun e => K3.out (hne.out 3 (by decide) e), fun e => K4.out (hne.out 4 (by decide) e), fun e => K5.out (hne.out 5 (by decide) e), fun e => K6.out (hne.out 6 (by decide) e), fun e => K7.out (hne.out 7 (by decide) e), fun e => K8.out (hne.out 8 (by decide) e), fun e => K9.out (hne.out 9 (by decide) e), fun e => K10.out (hne.out 10 (by decide) e), fun e => K11.out (hne.out 11 (by decide) e), fun e => K12.out (hne.out 12 (by decide) e), fun e => K13.out (hne.out 13 (by decide) e), fun e => K14.out (hne.out 14 (by decide) e), fun e => K15.out (hne.out 15 (by decide) e), fun _ => rfl, fun e => K17.out (hne.out 17 (by decide) e), fun e => K18.out (hne.out 18 (by decide) e), fun e => K19.out (hne.out 19 (by decide) e), hB.trans (hb3.mono hB.size)⟩
                · cases ho
                  have d8 := hd ⟨8, .guard⟩ (by simp) rfl
                  obtain rfl := K8.out d8
                  refine wpOp_step rfl (fun K hK => ?_)
                  go_simp
                  refine hK _ _ ⟨by simpa using hz, v54, v55, v56, v57, v58, v59, v60, v61, .bool false, v63, v64, v65, v66, v67, v68, v69, v70, .pointer (some ⟨G, 0, none⟩), v72, v73, rfl, ?_⟩
                  exact ⟨fun e => K0.out (hne.out 0 (by decide) e), fun e => K1.out (hne.out 1 (by decide) e), fun e => K2.out (hne.out 2 (by decide) e), fun e => K3.out (hne.out 3 (by decide) e), fun e => K4.out (hne.out 4 (by decide) e), fun e => K5.out (hne.out 5 (by decide) e), fun e => K6.out (hne.out 6 (by decide) e), fun e => K7.out (hne.out 7 (by decide) e), fun e => K8.out (hne.out 8 (by decide) e), fun e => K9.out (hne.out 9 (by decide) e), fun e => K10.out (hne.out 10 (by decide) e), fun e => K11.out (hne.out 11 (by decide) e), fun e => K12.out (hne.out 12 (by decide) e), fun e => K13.out (hne.out 13 (by decide) e), fun e => K14.out (hne.out 14 (by decide) e), fun e => K15.out (hne.out 15 (by decide) e), fun e => K16.out (hne.out 16 (by decide) e), fun _ => rfl, fun e => K18.out (hne.out 18 (by decide) e), fun e => K19.out (hne.out 19 (by decide) e), hB⟩
                · cases ho
                  have d17 := hd ⟨17, .data⟩ (by simp) rfl
                  have d8 := hd ⟨8, .guard⟩ (by simp) rfl
                  obtain rfl := K17.out d17
                  obtain rfl := K8.out d8
                  obtain ⟨_, e0, e1, e2, e3, e4, e5, e6, e7, e8, e9⟩ := hOk.out wx hB
                  refine wpOp_step rfl (fun K hK => ?_)
                  go_simp
                  refine hK _ _ ⟨by simpa using hz, v54, v55, v56, v57, v58, v59, v60, v61, .bool false, v63, v64, v65, v66, v67, v68, v69, v70, .pointer (some ⟨G, 0, none⟩), .int .i64 s.v, v73, rfl, ?_⟩
                  exact ⟨fun e => K0.out (hne.out 0 (by decide) e), fun e => K1.out (hne.out 1 (by decide) e), fun e => K2.out (hne.out 2 (by decide) e), fun e => K3.out (hne.out 3 (by decide) e), fun e => K4.out (hne.out 4 (by decide) e), fun e => K5.out (hne.out 5 (by decide) e), fun e => K6.out (hne.out 6 (by decide) e), fun e => K7.out (hne.out 7 (by decide) e), fun e => K8.out (hne.out 8 (by decide) e), fun e => K9.out (hne.out 9 (by decide) e), fun e => K10.out (hne.out 10 (by decide) e), fun e => K11.out (hne.out 11 (by decide) e), fun e => K12.out (hne.out 12 (by decide) e), fun e => K13.out (hne.out 13 (by decide) e), fun e => K14.out (hne.out 14 (by decide) e), fun e => K15.out (hne.out 15 (by decide) e), fun e => K16.out (hne.out 16 (by decide) e), fun e => K17.out (hne.out 17 (by decide) e), fun _ => rfl, fun e => K19.out (hne.out 19 (by decide) e), hB⟩
                · cases ho
                  have d16 := hd ⟨16, .data⟩ (by simp) rfl
                  have d18 := hd ⟨18, .data⟩ (by simp) rfl
                  have d8 := hd ⟨8, .guard⟩ (by simp) rfl
                  obtain rfl := K16.out d16
                  obtain rfl := K18.out d18
                  obtain rfl := K8.out d8
                  refine wpOp_step rfl (fun K hK => ?_)
                  go_simp
                  refine hK _ _ ⟨by simpa using hz, v54, v55, v56, v57, v58, v59, v60, v61, .bool false, v63, v64, v65, v66, v67, v68, v69, .int .i64 d.lev, v71, .int .i64 s.v, .bool (decide (d.lev ≤ s.v)), rfl, ?_⟩
                  exact ⟨fun e => K0.out (hne.out 0 (by decide) e), fun e => K1.out (hne.out 1 (by decide) e), fun e => K2.out (hne.out 2 (by decide) e), fun e => K3.out (hne.out 3 (by decide) e), fun e => K4.out (hne.out 4 (by decide) e), fun e => K5.out (hne.out 5 (by decide) e), fun e => K6.out (hne.out 6 (by decide) e), fun e => K7.out (hne.out 7 (by decide) e), fun e => K8.out (hne.out 8 (by decide) e), fun e => K9.out (hne.out 9 (by decide) e), fun e => K10.out (hne.out 10 (by decide) e), fun e => K11.out (hne.out 11 (by decide) e), fun e => K12.out (hne.out 12 (by decide) e), fun e => K13.out (hne.out 13 (by decide) e), fun e => K14.out (hne.out 14 (by decide) e), fun e => K15.out (hne.out 15 (by decide) e), fun e => K16.out (hne.out 16 (by decide) e), fun e => K17.out (hne.out 17 (by decide) e), fun e => K18.out (hne.out 18 (by decide) e), fun _ => rfl, hB⟩
              case hl =>
                rintro listed aq wx ⟨hz, v54, v55, v56, v57, v58, v59, v60, v61, v62, v63, v64, v65, v66, v67, v68, v69, v70, v71, v72, v73, rfl, hII⟩ hall
                have K0 := Lib.hid hII.1
                have K1 := Lib.hid hII.2.1
                have K2 := Lib.hid hII.2.2.1
                have K3 := Lib.hid hII.2.2.2.1
                have K4 := Lib.hid hII.2.2.2.2.1
                have K5 := Lib.hid hII.2.2.2.2.2.1
                have K6 := Lib.hid hII.2.2.2.2.2.2.1
                have K7 := Lib.hid hII.2.2.2.2.2.2.2.1
                have K8 := Lib.hid hII.2.2.2.2.2.2.2.2.1
                have K9 := Lib.hid hII.2.2.2.2.2.2.2.2.2.1
                have K10 := Lib.hid hII.2.2.2.2.2.2.2.2.2.2.1
                have K11 := Lib.hid hII.2.2.2.2.2.2.2.2.2.2.2.1
                have K12 := Lib.hid hII.2.2.2.2.2.2.2.2.2.2.2.2.1
                have K13 := Lib.hid hII.2.2.2.2.2.2.2.2.2.2.2.2.2.1
                have K14 := Lib.hid hII.2.2.2.2.2.2.2.2.2.2.2.2.2.2.1
                have K15 := Lib.hid hII.2.2.2.2.2.2.2.2.2.2.2.2.2.2.2.1
                have K16 := Lib.hid hII.2.2.2.2.2.2.2.2.2.2.2.2.2.2.2.2.1
                have K17 := Lib.hid hII.2.2.2.2.2.2.2.2.2.2.2.2.2.2.2.2.2.1
                have K18 := Lib.hid hII.2.2.2.2.2.2.2.2.2.2.2.2.2.2.2.2.2.2.1
                have K19 := Lib.hid hII.2.2.2.2.2.2.2.2.2.2.2.2.2.2.2.2.2.2.2.1
                have hB : Below wq.heap.size wq wx := hII.2.2.2.2.2.2.2.2.2.2.2.2.2.2.2.2.2.2.2.2
                clear hII
                obtain rfl := K0.out (hall 0 (by decide))
                obtain rfl := K1.out (hall 1 (by decide))
                obtain rfl := K2.out (hall 2 (by decide))
                obtain rfl := K3.out (hall 3 (by decide))
                obtain rfl := K4.out (hall 4 (by decide))
                obtain rfl := K5.out (hall 5 (by decide))
                obtain rfl := K6.out (hall 6 (by decide))
                obtain rfl := K7.out (hall 7 (by decide))
                obtain rfl := K8.out (hall 8 (by decide))
                obtain rfl := K9.out (hall 9 (by decide))
                obtain rfl := K10.out (hall 10 (by decide))
                obtain rfl := K11.out (hall 11 (by decide))
                obtain rfl := K12.out (hall 12 (by decide))
                obtain rfl := K13.out (hall 13 (by decide))
                obtain rfl := K14.out (hall 14 (by decide))
                obtain rfl := K15.out (hall 15 (by decide))
                obtain rfl := K16.out (hall 16 (by decide))
                obtain rfl := K17.out (hall 17 (by decide))
                obtain rfl := K18.out (hall 18 (by decide))
                obtain rfl := K19.out (hall 19 (by decide))
                clear hall K0 K1 K2 K3 K4 K5 K6 K7 K8 K9 K10 K11 K12 K13 K14 K15 K16 K17 K18 K19
                refine wpOp_step rfl (fun K0 hK0 => ?_)
                go_simp
                refine hK0 _ _ ?_
                clear hK0
                have hBn := Lib.hid (hB2.out.trans (hB.mono (by omega)))
                have hLn := Lib.hid (hLr.out.trans (hB.mono hzr))
                clear hB
                cases hdd : decide (d.lev ≤ s.v)
                · have hT := Lib.hid (show kOk (ds.take k) s.v s.b = true by rw [hKq.out, hdd]; rfl)
                  go_wp2_with fail
                  exact ⟨⟨hLn.out, .inr (.inr (.inl ⟨rfl, ha, hT.out⟩))⟩, by simp [intOf]⟩
                · have hT : kOk (ds.take k) s.v s.b = false := by rw [hKq.out, hdd]; rfl
                  have hFF := Lib.hid (hF.out (show cOk s (ds.take k) = false by rw [hR.out, hT, Bool.and_false, Bool.false_and]))
                  clear hT
                  go_wp2_with fail
                  go_ret
                  exact ⟨ret_bool hFF.out, hBn.out⟩
            · have hK : kOk (ds.take k) s.v s.b = false := by rw [hKd.out, q3, Bool.false_and]
              rw [q3] at cI
              have hFF := Lib.hid (hF.out (by rw [hR.out, hK, Bool.and_false, Bool.false_and]))
              have hxc := hWr.out.cell
              have hw1 : IntKind.i64.wrap ((k : Int) - 1) = (k : Int) - 1 := by rw [IntKind.wrap_i64]; omega
              clear hK q1 q3
              go_wp2_with fail
              go_quiet ((go_at_call 65; exact Calls.quiet_of_same ((cI.out _).mono fun _ _ h => ⟨h.1, h.2.symm⟩)))
              go_wp2_with fail
              go_ret
              exact ⟨ret_bool hFF.out, below_drewN hB2.out _⟩
          · have cI := Lib.hid (fun wx => l1In_any s.c 0 ((k : Int) - 1) wx)
            rcases inB_cases s.c 0 ((k : Int) - 1) with ⟨q1, q2, q3⟩ | ⟨q1, q3⟩
            · obtain ⟨j, hj⟩ : ∃ j : Nat, s.c = j := ⟨_, (Int.toNat_of_nonneg q1).symm⟩
              have hjk : j < k := by omega
              obtain ⟨g', off', eA, hg', hat⟩ := hHr.out.gt_ (k := j) (by omega)
              injection eA with eA
              injection eA with eA1 eA2 _
              subst eA1 eA2
              have hgz : g < wq.heap.size := by omega
              obtain ⟨c0, c1, c2, c3, c4⟩ := hat.open_
              have hge := allOk_ge hAll.out hjk
              have hKq := Lib.hid (show kOk (ds.take k) s.v s.c = !(decide ((gt ds j).lev ≤ s.v)) by
                rw [hKd.out, q3, Bool.true_and, hj, Int.toNat_natCast, gt_take hjk, ← decide_not]
                exact decide_eq_decide.2 (by omega))
              rw [q3, hj] at cI
              generalize gt ds j = d at *
              have cL := Lib.hid (fun wx => l11Level_any d hge wx)
              have hOk := Lib.hid (fun (wx : World) (hx : Below wq.heap.size wq wx) => (show Below wq.heap.size wq wx ∧ wx.cell? ⟨G, 0, none⟩ = some (.int .i64 s.v) ∧ wx.cell? ⟨G, 1, none⟩ = some (.int .i64 s.n) ∧ wx.cell? ⟨G, 2, none⟩ = some (.int .i64 s.a) ∧ wx.cell? ⟨G, 3, none⟩ = some (.int .i64 s.b) ∧ wx.cell? ⟨G, 4, none⟩ = some (.int .i64 (j : Int)) ∧ wx.cell? ⟨g, off + j * 5, none⟩ = some (.int .i64 d.v) ∧ wx.cell? ⟨g, off + j * 5 + 1, none⟩ = some (.int .i64 d.n) ∧ wx.cell? ⟨g, off + j * 5 + 2, none⟩ = some (.int .i64 d.a) ∧ wx.cell? ⟨g, off + j * 5 + 3, none⟩ = some (.int .i64 d.b) ∧ wx.cell? ⟨g, off + j * 5 + 4, none⟩ = some (.int .i64 d.c) from ⟨hx, (hWr.out.kept hx).cell 0, (hWr.out.kept hx).cell 1, (hWr.out.kept hx).cell 2, (hWr.out.kept hx).cell 3, ((hWr.out.kept hx).cell 4).trans (by rw [← hj]; rfl), (hx.cell (p := ⟨g, off + j * 5, none⟩) (by exact hgz)).trans c0, (hx.cell (p := ⟨g, off + j * 5 + 1, none⟩) (by exact hgz)).trans c1, (hx.cell (p := ⟨g, off + j * 5 + 2, none⟩) (by exact hgz)).trans c2, (hx.cell (p := ⟨g, off + j * 5 + 3, none⟩) (by exact hgz)).trans c3, (hx.cell (p := ⟨g, off + j * 5 + 4, none⟩) (by exact hgz)).trans c4⟩))
              have hjh := Lib.hid hj
              clear c0 c1 c2 c3 c4 hat q1 q2 q3 hj hge
              go_wp2_with fail
              refine wp_region_any (by kernel_rfl) ?_
              change wpAny _ _ _ _ _ _ _ (World.drew _)
              refine wpAny_last (n := 20) (I := fun listed aq wx => listed.size = 21 ∧ ∃ v54 v55 v56 v57 v58 v59 v60 v61 v62 v63 v64 v65 v66 v67 v68 v69 v70 v71 v72 v73 : Value, aq = { tmps := #[.slice (some ⟨g, off, none⟩) n c, undef, u2, .int .i64 ↑k, .pointer (some ⟨G, 0, none⟩), .int .i64 2, .int .i64 ↑k, .slice (some ⟨g, off, none⟩) n c, .int .i64 ↑n, .bool true, u10, u11, .slice (some ⟨g, off, none⟩) n c, .int .i64 ↑k, .pointer (some ⟨g, off + k * 5, none⟩), .agg #[.int .i64 s.v, .int .i64 s.n, .int .i64 s.a, .int .i64 s.b, .int .i64 s.c], .pointer (some ⟨G, 0, none⟩), .int .i64 s.v, .bool false, u19, u20, u21, u22, u23, u24, u25, u26, u27, u28, u29, u30, u31, u32, u33, u34, u35, u36, u37, u38, u39, u40, .pointer (some ⟨G, 0, none⟩), .int .i64 s.v, .bool true, .bool false, .bool false, .pointer (some ⟨G, 1, none⟩), .int .i64 s.n, .bool false, .bool false, .int .i64 2, .bool true, u52, u53, v54, v55, v56, v57, v58, v59, v60, v61, v62, v63, v64, v65, v66, v67, v68, v69, v70, v71, v72, v73, u74, undef, undef, undef], defers := [] } ∧ (listed.getD 0 false = true → v54 = .int .i64 2) ∧ (listed.getD 1 false = true → v55 = .pointer (some ⟨G, 2, none⟩)) ∧ (listed.getD 2 false = true → v56 = .pointer (some ⟨G, 4, none⟩)) ∧ (listed.getD 3 false = true → v57 = .int .i64 (j : Int)) ∧ (listed.getD 4 false = true → v58 = .int .i64 ↑k) ∧ (listed.getD 5 false = true → v59 = .int .i64 ((k : Int) - 1)) ∧ (listed.getD 6 false = true → v60 = .bool true) ∧ (listed.getD 7 false = true → v61 = .bool false) ∧ (listed.getD 8 false = true → v62 = .bool false) ∧ (listed.getD 9 false = true → v63 = .slice (some ⟨g, off, none⟩) n c) ∧ (listed.getD 10 false = true → v64 = .int .i64 2) ∧ (listed.getD 11 false = true → v65 = .pointer (some ⟨G, 2, none⟩)) ∧ (listed.getD 12 false = true → v66 = .pointer (some ⟨G, 4, none⟩)) ∧ (listed.getD 13 false = true → v67 = .int .i64 (j : Int)) ∧ (listed.getD 14 false = true → v68 = .pointer (some ⟨g, off + j * 5, none⟩)) ∧ (listed.getD 15 false = true → v69 = .agg #[.int .i64 d.v, .int .i64 d.n, .int .i64 d.a, .int .i64 d.b, .int .i64 d.c]) ∧ (listed.getD 16 false = true → v70 = .int .i64 d.lev) ∧ (listed.getD 17 false = true → v71 = .pointer (some ⟨G, 0, none⟩)) ∧ (listed.getD 18 false = true → v72 = .int .i64 s.v) ∧ (listed.getD 19 false = true → v73 = .bool (decide (d.lev ≤ s.v))) ∧ Below wq.heap.size wq wx) rfl (by kernel_rfl) (by kernel_rfl) ?hs ?hl _ _ _ ?st rfl (by decide) _ (by decide)
              case st =>
                refine ⟨rfl, u54, u55, u56, u57, u58, u59, u60, u61, u62, u63, u64, u65, u66, u67, u68, u69, u70, u71, u72, u73, rfl, ?_, ?_, ?_, ?_, ?_, ?_, ?_, ?_, ?_, ?_, ?_, ?_, ?_, ?_, ?_, ?_, ?_, ?_, ?_, ?_, (Below.refl _ _).drew⟩ <;> (intro e; exact absurd e (by decide))
              case hs =>
                rintro listed aq wx ⟨hz, v54, v55, v56, v57, v58, v59, v60, v61, v62, v63, v64, v65, v66, v67, v68, v69, v70, v71, v72, v73, rfl, hII⟩ i hin hi
                obtain ⟨h0, o, ho, hd⟩ := mem_ready.1 hi
                have K0 := Lib.hid hII.1
                have K1 := Lib.hid hII.2.1
                have K2 := Lib.hid hII.2.2.1
                have K3 := Lib.hid hII.2.2.2.1
                have K4 := Lib.hid hII.2.2.2.2.1
                have K5 := Lib.hid hII.2.2.2.2.2.1
                have K6 := Lib.hid hII.2.2.2.2.2.2.1
                have K7 := Lib.hid hII.2.2.2.2.2.2.2.1
                have K8 := Lib.hid hII.2.2.2.2.2.2.2.2.1
                have K9 := Lib.hid hII.2.2.2.2.2.2.2.2.2.1
                have K10 := Lib.hid hII.2.2.2.2.2.2.2.2.2.2.1
                have K11 := Lib.hid hII.2.2.2.2.2.2.2.2.2.2.2.1
                have K12 := Lib.hid hII.2.2.2.2.2.2.2.2.2.2.2.2.1
                have K13 := Lib.hid hII.2.2.2.2.2.2.2.2.2.2.2.2.2.1
                have K14 := Lib.hid hII.2.2.2.2.2.2.2.2.2.2.2.2.2.2.1
                have K15 := Lib.hid hII.2.2.2.2.2.2.2.2.2.2.2.2.2.2.2.1
                have K16 := Lib.hid hII.2.2.2.2.2.2.2.2.2.2.2.2.2.2.2.2.1
                have K17 := Lib.hid hII.2.2.2.2.2.2.2.2.2.2.2.2.2.2.2.2.2.1
                have K18 := Lib.hid hII.2.2.2.2.2.2.2.2.2.2.2.2.2.2.2.2.2.2.1
                have K19 := Lib.hid hII.2.2.2.2.2.2.2.2.2.2.2.2.2.2.2.2.2.2.2.1
                have hB : Below wq.heap.size wq wx := hII.2.2.2.2.2.2.2.2.2.2.2.2.2.2.2.2.2.2.2.2
                have hne := Lib.hid (fun k (hk : i ≠ k) => @listed_ne listed i k hk)
                have h0f : listed.getD i false = false := by rw [Array.getD_eq_getD_getElem?, getD_false h0]; rfl
                clear hII hi h0
                rcases (by omega : i = 0 ∨ i = 1 ∨ i = 2 ∨ i = 3 ∨ i = 4 ∨ i = 5 ∨ i = 6 ∨ i = 7 ∨ i = 8 ∨ i = 9 ∨ i = 10 ∨ i = 11 ∨ i = 12 ∨ i = 13 ∨ i = 14 ∨ i = 15 ∨ i = 16 ∨ i = 17 ∨ i = 18 ∨ i = 19) with rfl | rfl | rfl | rfl | rfl | rfl | rfl | rfl | rfl | rfl | rfl | rfl | rfl | rfl | rfl | rfl | rfl | rfl | rfl | rfl
                · cases ho
                  refine wpOp_step rfl (fun K hK => ?_)
                  go_simp
                  refine hK _ _ ⟨by simpa using hz, .int .i64 2, v55, v56, v57, v58, v59, v60, v61, v62, v63, v64, v65, v66, v67, v68, v69, v70, v71, v72, v73, rfl, ?_⟩
                  exact ⟨fun _ => rfl, fun e => K1.out (hne.out 1 (by decide) e), fun e => K2.out (hne.out 2 (by decide) e), fun e => K3.out (hne.out 3 (by decide) e), fun e => K4.out (hne.out 4 (by decide) e), fun e => K5.out (hne.out 5 (by decide) e), fun e => K6.out (hne.out 6 (by decide) e), fun e => K7.out (hne.out 7 (by decide) e), fun e => K8.out (hne.out 8 (by decide) e), fun e => K9.out (hne.out 9 (by decide) e), fun e => K10.out (hne.out 10 (by decide) e), fun e => K11.out (hne.out 11 (by decide) e), fun e => K12.out (hne.out 12 (by decide) e), fun e => K13.out (hne.out 13 (by decide) e), fun e => K14.out (hne.out 14 (by decide) e), fun e => K15.out (hne.out 15 (by decide) e), fun e => K16.out (hne.out 16 (by decide) e), fun e => K17.out (hne.out 17 (by decide) e), fun e => K18.out (hne.out 18 (by decide) e), fun e => K19.out (hne.out 19 (by decide) e), hB⟩
                · cases ho
                  refine wpOp_step rfl (fun K hK => ?_)
                  go_simp
                  refine hK _ _ ⟨by simpa using hz, v54, .pointer (some ⟨G, 2, none⟩), v56, v57, v58, v59, v60, v61, v62, v63, v64, v65, v66, v67, v68, v69, v70, v71, v72, v73, rfl, ?_⟩
                  exact ⟨fun e => K0.out (hne.out 0 (by decide) e), fun _ => rfl, fun e => K2.out (hne.out 2 (by decide) e), fun e => K3.out (hne.out 3 (by decide) e), fun e => K4.out (hne.out 4 (by decide) e), fun e => K5.out (hne.out 5 (by decide) e), fun e => K6.out (hne.out 6 (by decide) e), fun e => K7.out (hne.out 7 (by decide) e), fun e => K8.out (hne.out 8 (by decide) e), fun e => K9.out (hne.out 9 (by decide) e), fun e => K10.out (hne.out 10 (by decide) e), fun e => K11.out (hne.out 11 (by decide) e), fun e => K12.out (hne.out 12 (by decide) e), fun e => K13.out (hne.out 13 (by decide) e), fun e => K14.out (hne.out 14 (by decide) e), fun e => K15.out (hne.out 15 (by decide) e), fun e => K16.out (hne.out 16 (by decide) e), fun e => K17.out (hne.out 17 (by decide) e), fun e => K18.out (hne.out 18 (by decide) e), fun e => K19.out (hne.out 19 (by decide) e), hB⟩
                · cases ho
                  have d1 := hd ⟨1, .data⟩ (by simp) rfl
                  have d0 := hd ⟨0, .data⟩ (by simp) rfl
                  obtain rfl := K1.out d1
                  obtain rfl := K0.out d0
                  refine wpOp_step rfl (fun K hK => ?_)
                  go_simp
                  refine hK _ _ ⟨by simpa using hz, .int .i64 2, .pointer (some ⟨G, 2, none⟩), .pointer (some ⟨G, 4, none⟩), v57, v58, v59, v60, v61, v62, v63, v64, v65, v66, v67, v68, v69, v70, v71, v72, v73, rfl, ?_⟩
                  exact ⟨fun e => K0.out (hne.out 0 (by decide) e), fun e => K1.out (hne.out 1 (by decide) e), fun _ => rfl, fun e => K3.out (hne.out 3 (by decide) e), fun e => K4.out (hne.out 4 (by decide) e), fun e => K5.out (hne.out 5 (by decide) e), fun e => K6.out (hne.out 6 (by decide) e), fun e => K7.out (hne.out 7 (by decide) e), fun e => K8.out (hne.out 8 (by decide) e), fun e => K9.out (hne.out 9 (by decide) e), fun e => K10.out (hne.out 10 (by decide) e), fun e => K11.out (hne.out 11 (by decide) e), fun e => K12.out (hne.out 12 (by decide) e), fun e => K13.out (hne.out 13 (by decide) e), fun e => K14.out (hne.out 14 (by decide) e), fun e => K15.out (hne.out 15 (by decide) e), fun e => K16.out (hne.out 16 (by decide) e), fun e => K17.out (hne.out 17 (by decide) e), fun e => K18.out (hne.out 18 (by decide) e), fun e => K19.out (hne.out 19 (by decide) e), hB⟩
                · cases ho
                  have d2 := hd ⟨2, .data⟩ (by simp) rfl
                  obtain rfl := K2.out d2
                  obtain ⟨_, e0, e1, e2, e3, e4, e5, e6, e7, e8, e9⟩ := hOk.out wx hB
                  refine wpOp_step rfl (fun K hK => ?_)
                  go_simp
                  refine hK _ _ ⟨by simpa using hz, v54, v55, .pointer (some ⟨G, 4, none⟩), .int .i64 (j : Int), v58, v59, v60, v61, v62, v63, v64, v65, v66, v67, v68, v69, v70, v71, v72, v73, rfl, ?_⟩
                  exact ⟨fun e => K0.out (hne.out 0 (by decide) e), fun e => K1.out (hne.out 1 (by decide) e), fun e => K2.out (hne.out 2 (by decide) e), fun _ => rfl, fun e => K4.out (hne.out 4 (by decide) e), fun e => K5.out (hne.out 5 (by decide) e), fun e => K6.out (hne.out 6 (by decide) e), fun e => K7.out (hne.out 7 (by decide) e), fun e => K8.out (hne.out 8 (by decide) e), fun e => K9.out (hne.out 9 (by decide) e), fun e => K10.out (hne.out 10 (by decide) e), fun e => K11.out (hne.out 11 (by decide) e), fun e => K12.out (hne.out 12 (by decide) e), fun e => K13.out (hne.out 13 (by decide) e), fun e => K14.out (hne.out 14 (by decide) e), fun e => K15.out (hne.out 15 (by decide) e), fun e => K16.out (hne.out 16 (by decide) e), fun e => K17.out (hne.out 17 (by decide) e), fun e => K18.out (hne.out 18 (by decide) e), fun e => K19.out (hne.out 19 (by decide) e), hB⟩
                · cases ho
                  refine wpOp_step rfl (fun K hK => ?_)
                  go_simp
                  refine hK _ _ ⟨by simpa using hz, v54, v55, v56, v57, .int .i64 ↑k, v59, v60, v61, v62, v63, v64, v65, v66, v67, v68, v69, v70, v71, v72, v73, rfl, ?_⟩
                  exact ⟨fun e => K0.out (hne.out 0 (by decide) e), fun e => K1.out (hne.out 1 (by decide) e), fun e => K2.out (hne.out 2 (by decide) e), fun e => K3.out (hne.out 3 (by decide) e), fun _ => rfl, fun e => K5.out (hne.out 5 (by decide) e), fun e => K6.out (hne.out 6 (by decide) e), fun e => K7.out (hne.out 7 (by decide) e), fun e => K8.out (hne.out 8 (by decide) e), fun e => K9.out (hne.out 9 (by decide) e), fun e => K10.out (hne.out 10 (by decide) e), fun e => K11.out (hne.out 11 (by decide) e), fun e => K12.out (hne.out 12 (by decide) e), fun e => K13.out (hne.out 13 (by decide) e), fun e => K14.out (hne.out 14 (by decide) e), fun e => K15.out (hne.out 15 (by decide) e), fun e => K16.out (hne.out 16 (by decide) e), fun e => K17.out (hne.out 17 (by decide) e), fun e => K18.out (hne.out 18 (by decide) e), fun e => K19.out (hne.out 19 (by decide) e), hB⟩
                · cases ho
                  have d4 := hd ⟨4, .data⟩ (by simp) rfl
                  obtain rfl := K4.out d4
                  have hw1 : IntKind.i64.wrap ((k : Int) - 1) = (k : Int) - 1 := by rw [IntKind.wrap_i64]; omega
                  refine wpOp_step rfl (fun K hK => ?_)
                  go_simp
                  refine hK _ _ ⟨by simpa using hz, v54, v55, v56, v57, .int .i64 ↑k, .int .i64 ((k : Int) - 1), v60, v61, v62, v63, v64, v65, v66, v67, v68, v69, v70, v71, v72, v73, rfl, ?_⟩
                  exact ⟨fun e => K0.out (hne.out 0 (by decide) e), fun e => K1.out (hne.out 1 (by decide) e), fun e => K2.out (hne.out 2 (by decide) e), fun e => K3.out (hne.out 3 (by decide) e), fun e => K4.out (hne.out 4 (by decide) e), fun _ => rfl, fun e => K6.out (hne.out 6 (by decide) e), fun e => K7.out (hne.out 7 (by decide) e), fun e => K8.out (hne.out 8 (by decide) e), fun e => K9.out (hne.out 9 (by decide) e), fun e => K10.out (hne.out 10 (by decide) e), fun e => K11.out (hne.out 11 (by decide) e), fun e => K12.out (hne.out 12 (by decide) e), fun e => K13.out (hne.out 13 (by decide) e), fun e => K14.out (hne.out 14 (by decide) e), fun e => K15.out (hne.out 15 (by decide) e), fun e => K16.out (hne.out 16 (by decide) e), fun e => K17.out (hne.out 17 (by decide) e), fun e => K18.out (hne.out 18 (by decide) e), fun e => K19.out (hne.out 19 (by decide) e), hB⟩
                · cases ho
                  have d3 := hd ⟨3, .data⟩ (by simp) rfl
                  have d5 := hd ⟨5, .data⟩ (by simp) rfl
                  obtain rfl := K3.out d3
                  obtain rfl := K5.out d5
                  refine wpOp_step rfl (fun K hK => ?_)
                  go_simp
                  go_at_call 65
                  refine (cI.out _).mono ?_
                  rintro e w3 ⟨rfl, rfl⟩
                  refine hK _ _ ⟨by simpa using hz, v54, v55, v56, .int .i64 (j : Int), v58, .int .i64 ((k : Int) - 1), .bool true, v61, v62, v63, v64, v65, v66, v67, v68, v69, v70, v71, v72, v73, rfl, ?_⟩
                  exact ⟨fun e => K0.out (hne.out 0 (by decide) e), fun e => K1.out (hne.out 1 (by decide) e), fun e => K2.out (hne.out 2 (by decide) e), fun e => K3.out (hne.out 3 (by decide) e), fun e => K4.out (hne.out 4 (by decide) e), fun e => K5.out (hne.out 5 (by decide) e), fun _ => rfl, fun e => K7.out (hne.out 7 (by decide) e), fun e => K8.out (hne.out 8 (by decide) e), fun e => K9.out (hne.out 9 (by decide) e), fun e => K10.out (hne.out 10 (by decide) e), fun e => K11.out (hne.out 11 (by decide) e), fun e => K12.out (hne.out 12 (by decide) e), fun e => K13.out (hne.out 13 (by decide) e), fun e => K14.out (hne.out 14 (by decide) e), fun e => K15.out (hne.out 15 (by decide) e), fun e => K16.out (hne.out 16 (by decide) e), fun e => K17.out (hne.out 17 (by decide) e), fun e => K18.out (hne.out 18 (by decide) e), fun e => K19.out (hne.out 19 (by decide) e), hB⟩
                · cases ho
                  have d6 := hd ⟨6, .data⟩ (by simp) rfl
                  obtain rfl := K6.out d6
                  refine wpOp_step rfl (fun K hK => ?_)
                  go_simp
                  refine hK _ _ ⟨by simpa using hz, v54, v55, v56, v57, v58, v59, .bool true, .bool false, v62, v63, v64, v65, v66, v67, v68, v69, v70, v71, v72, v73, rfl, ?_⟩
                  exact ⟨fun e => K0.out (hne.out 0 (by decide) e), fun e => K1.out (hne.out 1 (by decide) e), fun e => K2.out (hne.out 2 (by decide) e), fun e => K3.out (hne.out 3 (by decide) e), fun e => K4.out (hne.out 4 (by decide) e), fun e => K5.out (hne.out 5 (by decide) e), fun e => K6.out (hne.out 6 (by decide) e), fun _ => rfl, fun e => K8.out (hne.out 8 (by decide) e), fun e => K9.out (hne.out 9 (by decide) e), fun e => K10.out (hne.out 10 (by decide) e), fun e => K11.out (hne.out 11 (by decide) e), fun e => K12.out (hne.out 12 (by decide) e), fun e => K13.out (hne.out 13 (by decide) e), fun e => K14.out (hne.out 14 (by decide) e), fun e => K15.out (hne.out 15 (by decide) e), fun e => K16.out (hne.out 16 (by decide) e), fun e => K17.out (hne.out 17 (by decide) e), fun e => K18.out (hne.out 18 (by decide) e), fun e => K19.out (hne.out 19 (by decide) e), hB⟩
                · cases ho
                  have d7 := hd ⟨7, .data⟩ (by simp) rfl
                  obtain rfl := K7.out d7
                  refine wpOp_step rfl (fun K hK => ?_)
                  go_simp
                  refine hK _ _ ⟨by simpa using hz, v54, v55, v56, v57, v58, v59, v60, .bool false, .bool false, v63, v64, v65, v66, v67, v68, v69, v70, v71, v72, v73, rfl, ?_⟩
                  exact ⟨fun e => K0.out (hne.out 0 (by decide) e), fun e => K1.out (hne.out 1 (by decide) e), fun e => K2.out (hne.out 2 (by decide) e), fun e => K3.out (hne.out 3 (by decide) e), fun e => K4.out (hne.out 4 (by decide) e), fun e => K5.out (hne.out 5 (by decide) e), fun e => K6.out (hne.out 6 (by decide) e), fun e => K7.out (hne.out 7 (by decide) e), fun _ => rfl, fun e => K9.out (hne.out 9 (by decide) e), fun e => K10.out (hne.out 10 (by decide) e), fun e => K11.out (hne.out 11 (by decide) e), fun e => K12.out (hne.out 12 (by decide) e), fun e => K13.out (hne.out 13 (by decide) e), fun e => K14.out (hne.out 14 (by decide) e), fun e => K15.out (hne.out 15 (by decide) e), fun e => K16.out (hne.out 16 (by decide) e), fun e => K17.out (hne.out 17 (by decide) e), fun e => K18.out (hne.out 18 (by decide) e), fun e => K19.out (hne.out 19 (by decide) e), hB⟩
                · cases ho
                  have d8 := hd ⟨8, .guard⟩ (by simp) rfl
                  obtain rfl := K8.out d8
                  refine wpOp_step rfl (fun K hK => ?_)
                  go_simp
                  refine hK _ _ ⟨by simpa using hz, v54, v55, v56, v57, v58, v59, v60, v61, .bool false, .slice (some ⟨g, off, none⟩) n c, v64, v65, v66, v67, v68, v69, v70, v71, v72, v73, rfl, ?_⟩
                  exact ⟨fun e => K0.out (hne.out 0 (by decide) e), fun e => K1.out (hne.out 1 (by decide) e), fun e => K2.out (hne.out 2 (by decide) e), fun e => K3.out (hne.out 3 (by decide) e), fun e => K4.out (hne.out 4 (by decide) e), fun e => K5.out (hne.out 5 (by decide) e), fun e => K6.out (hne.out 6 (by decide) e), fun e => K7.out (hne.out 7 (by decide) e), fun e => K8.out (hne.out 8 (by decide) e), fun _ => rfl, fun e => K10.out (hne.out 10 (by decide) e), fun e => K11.out (hne.out 11 (by decide) e), fun e => K12.out (hne.out 12 (by decide) e), fun e => K13.out (hne.out 13 (by decide) e), fun e => K14.out (hne.out 14 (by decide) e), fun e => K15.out (hne.out 15 (by decide) e), fun e => K16.out (hne.out 16 (by decide) e), fun e => K17.out (hne.out 17 (by decide) e), fun e => K18.out (hne.out 18 (by decide) e), fun e => K19.out (hne.out 19 (by decide) e), hB⟩
                · cases ho
                  have d8 := hd ⟨8, .guard⟩ (by simp) rfl
                  obtain rfl := K8.out d8
                  refine wpOp_step rfl (fun K hK => ?_)
                  go_simp
                  refine hK _ _ ⟨by simpa using hz, v54, v55, v56, v57, v58, v59, v60, v61, .bool false, v63, .int .i64 2, v65, v66, v67, v68, v69, v70, v71, v72, v73, rfl, ?_⟩
                  exact ⟨fun e => K0.out (hne.out 0 (by decide) e), fun e => K1.out (hne.out 1 (by decide) e), fun e => K2.out (hne.out 2 (by decide) e), fun e => K3.out (hne.out 3 (by decide) e), fun e => K4.out (hne.out 4 (by decide) e), fun e => K5.out (hne.out 5 (by decide) e), fun e => K6.out (hne.out 6 (by decide) e), fun e => K7.out (hne.out 7 (by decide) e), fun e => K8.out (hne.out 8 (by decide) e), fun e => K9.out (hne.out 9 (by decide) e), fun _ => rfl, fun e => K11.out (hne.out 11 (by decide) e), fun e => K12.out (hne.out 12 (by decide) e), fun e => K13.out (hne.out 13 (by decide) e), fun e => K14.out (hne.out 14 (by decide) e), fun e => K15.out (hne.out 15 (by decide) e), fun e => K16.out (hne.out 16 (by decide) e), fun e => K17.out (hne.out 17 (by decide) e), fun e => K18.out (hne.out 18 (by decide) e), fun e => K19.out (hne.out 19 (by decide) e), hB⟩
                · cases ho
                  have d8 := hd ⟨8, .guard⟩ (by simp) rfl
                  obtain rfl := K8.out d8
                  refine wpOp_step rfl (fun K hK => ?_)
                  go_simp
                  refine hK _ _ ⟨by simpa using hz, v54, v55, v56, v57, v58, v59, v60, v61, .bool false, v63, v64, .pointer (some ⟨G, 2, none⟩), v66, v67, v68, v69, v70, v71, v72, v73, rfl, ?_⟩
                  exact ⟨fun e => K0.out (hne.out 0 (by decide) e), fun e => K1.out (hne.out 1 (by decide) e), fun e => K2.out (hne.out 2 (by decide) e), fun e => K3.out (hne.out 3 (by decide) e), fun e => K4.out (hne.out 4 (by decide) e), fun e => K5.out (hne.out 5 (by decide) e), fun e => K6.out (hne.out 6 (by decide) e), fun e => K7.out (hne.out 7 (by decide) e), fun e => K8.out (hne.out 8 (by decide) e), fun e => K9.out (hne.out 9 (by decide) e), fun e => K10.out (hne.out 10 (by decide) e), fun _ => rfl, fun e => K12.out (hne.out 12 (by decide) e), fun e => K13.out (hne.out 13 (by decide) e), fun e => K14.out (hne.out 14 (by decide) e), fun e => K15.out (hne.out 15 (by decide) e), fun e => K16.out (hne.out 16 (by decide) e), fun e => K17.out (hne.out 17 (by decide) e), fun e => K18.out (hne.out 18 (by decide) e), fun e => K19.out (hne.out 19 (by decide) e), hB⟩
                · cases ho
                  have d11 := hd ⟨11, .data⟩ (by simp) rfl
                  have d10 := hd ⟨10, .data⟩ (by simp) rfl
                  have d8 := hd ⟨8, .guard⟩ (by simp) rfl
                  obtain rfl := K11.out d11
                  obtain rfl := K10.out d10
                  obtain rfl := K8.out d8
                  refine wpOp_step rfl (fun K hK => ?_)
                  go_simp
                  refine hK _ _ ⟨by simpa using hz, v54, v55, v56, v57, v58, v59, v60, v61, .bool false, v63, .int .i64 2, .pointer (some ⟨G, 2, none⟩), .pointer (some ⟨G, 4, none⟩), v67, v68, v69, v70, v71, v72, v73, rfl, ?_⟩
                  exact ⟨fun e => K0.out (hne.out 0 (by decide) e), fun e => K1.out (hne.out 1 (by decide) e), fun e => K2.out (hne.out 2 (by decide) e), fun e => K3.out (hne.out 3 (by decide) e), fun e => K4.out (hne.out 4 (by decide) e), fun e => K5.out (hne.out 5 (by decide) e), fun e => K6.out (hne.out 6 (by decide) e), fun e => K7.out (hne.out 7 (by decide) e), fun e => K8.out (hne.out 8 (by decide) e), fun e => K9.out (hne.out 9 (by decide) e), fun e => K10.out (hne.out 10 (by decide) e), fun e => K11.out (hne.out 11 (by decide) e), fun _ => rfl, fun e => K13.out (hne.out 13 (by decide) e), fun e => K14.out (hne.out 14 (by decide) e), fun e => K15.out (hne.out 15 (by decide) e), fun e => K16.out (hne.out 16 (by decide) e), fun e => K17.out (hne.out 17 (by decide) e), fun e => K18.out (hne.out 18 (by decide) e), fun e => K19.out (hne.out 19 (by decide) e), hB⟩
                · cases ho
                  have d12 := hd ⟨12, .data⟩ (by simp) rfl
                  have d8 := hd ⟨8, .guard⟩ (by simp) rfl
                  obtain rfl := K12.out d12
                  obtain rfl := K8.out d8
                  obtain ⟨_, e0, e1, e2, e3, e4, e5, e6, e7, e8, e9⟩ := hOk.out wx hB
                  refine wpOp_step rfl (fun K hK => ?_)
                  go_simp
                  refine hK _ _ ⟨by simpa using hz, v54, v55, v56, v57, v58, v59, v60, v61, .bool false, v63, v64, v65, .pointer (some ⟨G, 4, none⟩), .int .i64 (j : Int), v68, v69, v70, v71, v72, v73, rfl, ?_⟩
                  exact ⟨fun e => K0.out (hne.out 0 (by decide) e), fun e => K1.out (hne.out 1 (by decide) e), fun e => K2.out (hne.out 2 (by decide) e), fun e => K3.out (hne.out 3 (by decide) e), fun e => K4.out (hne.out 4 (by decide) e), fun e => K5.out (hne.out 5 (by decide) e), fun e => K6.out (hne.out 6 (by decide) e), fun e => K7.out (hne.out 7 (by decide) e), fun e => K8.out (hne.out 8 (by decide) e), fun e => K9.out (hne.out 9 (by decide) e), fun e => K10.out (hne.out 10 (by decide) e), fun e => K11.out (hne.out 11 (by decide) e), fun e => K12.out (hne.out 12 (by decide) e), fun _ => rfl, fun e => K14.out (hne.out 14 (by decide) e), fun e => K15.out (hne.out 15 (by decide) e), fun e => K16.out (hne.out 16 (by decide) e), fun e => K17.out (hne.out 17 (by decide) e), fun e => K18.out (hne.out 18 (by decide) e), fun e => K19.out (hne.out 19 (by decide) e), hB⟩
                · cases ho
                  have d9 := hd ⟨9, .data⟩ (by simp) rfl
                  have d13 := hd ⟨13, .data⟩ (by simp) rfl
                  have d8 := hd ⟨8, .guard⟩ (by simp) rfl
                  obtain rfl := K9.out d9
                  obtain rfl := K13.out d13
                  obtain rfl := K8.out d8
                  have hj0 : (0 : Int) ≤ (j : Int) := by omega
                  have hj1 : (j : Int) < (n : Int) := by omega
                  refine wpOp_step rfl (fun K hK => ?_)
                  go_simp
                  refine hK _ _ ⟨by simpa using hz, v54, v55, v56, v57, v58, v59, v60, v61, .bool false, .slice (some ⟨g, off, none⟩) n c, v64, v65, v66, .int .i64 (j : Int), .pointer (some ⟨g, off + j * 5, none⟩), v69, v70, v71, v72, v73, rfl, ?_⟩
                  exact ⟨fun e => K0.out (hne.out 0 (by decide) e), fun e => K1.out (hne.out 1 (by decide) e), fun e => K2.out (hne.out 2 (by decide) e), fun e => K3.out (hne.out 3 (by decide) e), fun e => K4.out (hne.out 4 (by decide) e), fun e => K5.out (hne.out 5 (by decide) e), fun e => K6.out (hne.out 6 (by decide) e), fun e => K7.out (hne.out 7 (by decide) e), fun e => K8.out (hne.out 8 (by decide) e), fun e => K9.out (hne.out 9 (by decide) e), fun e => K10.out (hne.out 10 (by decide) e), fun e => K11.out (hne.out 11 (by decide) e), fun e => K12.out (hne.out 12 (by decide) e), fun e => K13.out (hne.out 13 (by decide) e), fun _ => rfl, fun e => K15.out (hne.out 15 (by decide) e), fun e => K16.out (hne.out 16 (by decide) e), fun e => K17.out (hne.out 17 (by decide) e), fun e => K18.out (hne.out 18 (by decide) e), fun e => K19.out (hne.out 19 (by decide) e), hB⟩
                · cases ho
                  have d14 := hd ⟨14, .data⟩ (by simp) rfl
                  have d8 := hd ⟨8, .guard⟩ (by simp) rfl
                  obtain rfl := K14.out d14
                  obtain rfl := K8.out d8
                  obtain ⟨_, e0, e1, e2, e3, e4, e5, e6, e7, e8, e9⟩ := hOk.out wx hB
                  refine wpOp_step rfl (fun K hK => ?_)
                  go_simp
                  refine hK _ _ ⟨by simpa using hz, v54, v55, v56, v57, v58, v59, v60, v61, .bool false, v63, v64, v65, v66, v67, .pointer (some ⟨g, off + j * 5, none⟩), .agg #[.int .i64 d.v, .int .i64 d.n, .int .i64 d.a, .int .i64 d.b, .int .i64 d.c], v70, v71, v72, v73, rfl, ?_⟩
                  exact ⟨fun e => K0.out (hne.out 0 (by decide) e), fun e => K1.out (hne.out 1 (by decide) e), fun e => K2.out (hne.out 2 (by decide) e), fun e => K3.out (hne.out 3 (by decide) e), fun e => K4.out (hne.out 4 (by decide) e), fun e => K5.out (hne.out 5 (by decide) e), fun e => K6.out (hne.out 6 (by decide) e), fun e => K7.out (hne.out 7 (by decide) e), fun e => K8.out (hne.out 8 (by decide) e), fun e => K9.out (hne.out 9 (by decide) e), fun e => K10.out (hne.out 10 (by decide) e), fun e => K11.out (hne.out 11 (by decide) e), fun e => K12.out (hne.out 12 (by decide) e), fun e => K13.out (hne.out 13 (by decide) e), fun e => K14.out (hne.out 14 (by decide) e), fun _ => rfl, fun e => K16.out (hne.out 16 (by decide) e), fun e => K17.out (hne.out 17 (by decide) e), fun e => K18.out (hne.out 18 (by decide) e), fun e => K19.out (hne.out 19 (by decide) e), hB⟩
                · cases ho
                  have d15 := hd ⟨15, .data⟩ (by simp) rfl
                  have d8 := hd ⟨8, .guard⟩ (by simp) rfl
                  obtain rfl := K15.out d15
                  obtain rfl := K8.out d8
                  refine wpOp_step rfl (fun K hK => ?_)
                  go_simp
                  go_at_call 67
                  refine (cL.out _).mono ?_
                  rintro e w3 ⟨rfl, hb3⟩
                  refine hK _ _ ⟨by simpa using hz, v54, v55, v56, v57, v58, v59, v60, v61, .bool false, v63, v64, v65, v66, v67, v68, .agg #[.int .i64 d.v, .int .i64 d.n, .int .i64 d.a, .int .i64 d.b, .int .i64 d.c], .int .i64 d.lev, v71, v72, v73, rfl, ?_⟩
                  exact ⟨fun e => K0.out (hne.out 0 (by decide) e), fun e => K1.out (hne.out 1 (by decide) e), fun e => K2.out (hne.out 2 (by decide) e), fun e => K3.out (hne.out 3 (by decide) e), fun e => K4.out (hne.out 4 (by decide) e), fun e => K5.out (hne.out 5 (by decide) e), fun e => K6.out (hne.out 6 (by decide) e), fun e => K7.out (hne.out 7 (by decide) e), fun e => K8.out (hne.out 8 (by decide) e), fun e => K9.out (hne.out 9 (by decide) e), fun e => K10.out (hne.out 10 (by decide) e), fun e => K11.out (hne.out 11 (by decide) e), fun e => K12.out (hne.out 12 (by decide) e), fun e => K13.out (hne.out 13 (by decide) e), fun e => K14.out (hne.out 14 (by decide) e), fun e => K15.out (hne.out 15 (by decide) e), fun _ => rfl, fun e => K17.out (hne.out 17 (by decide) e), fun e => K18.out (hne.out 18 (by decide) e), fun e => K19.out (hne.out 19 (by decide) e), hB.trans (hb3.mono hB.size)⟩
                · cases ho
                  have d8 := hd ⟨8, .guard⟩ (by simp) rfl
                  obtain rfl := K8.out d8
                  refine wpOp_step rfl (fun K hK => ?_)
                  go_simp
                  refine hK _ _ ⟨by simpa using hz, v54, v55, v56, v57, v58, v59, v60, v61, .bool false, v63, v64, v65, v66, v67, v68, v69, v70, .pointer (some ⟨G, 0, none⟩), v72, v73, rfl, ?_⟩
                  exact ⟨fun e => K0.out (hne.out 0 (by decide) e), fun e => K1.out (hne.out 1 (by decide) e), fun e => K2.out (hne.out 2 (by decide) e), fun e => K3.out (hne.out 3 (by decide) e), fun e => K4.out (hne.out 4 (by decide) e), fun e => K5.out (hne.out 5 (by decide) e), fun e => K6.out (hne.out 6 (by decide) e), fun e => K7.out (hne.out 7 (by decide) e), fun e => K8.out (hne.out 8 (by decide) e), fun e => K9.out (hne.out 9 (by decide) e), fun e => K10.out (hne.out 10 (by decide) e), fun e => K11.out (hne.out 11 (by decide) e), fun e => K12.out (hne.out 12 (by decide) e), fun e => K13.out (hne.out 13 (by decide) e), fun e => K14.out (hne.out 14 (by decide) e), fun e => K15.out (hne.out 15 (by decide) e), fun e => K16.out (hne.out 16 (by decide) e), fun _ => rfl, fun e => K18.out (hne.out 18 (by decide) e), fun e => K19.out (hne.out 19 (by decide) e), hB⟩
                · cases ho
                  have d17 := hd ⟨17, .data⟩ (by simp) rfl
                  have d8 := hd ⟨8, .guard⟩ (by simp) rfl
                  obtain rfl := K17.out d17
                  obtain rfl := K8.out d8
                  obtain ⟨_, e0, e1, e2, e3, e4, e5, e6, e7, e8, e9⟩ := hOk.out wx hB
                  refine wpOp_step rfl (fun K hK => ?_)
                  go_simp
                  refine hK _ _ ⟨by simpa using hz, v54, v55, v56, v57, v58, v59, v60, v61, .bool false, v63, v64, v65, v66, v67, v68, v69, v70, .pointer (some ⟨G, 0, none⟩), .int .i64 s.v, v73, rfl, ?_⟩
                  exact ⟨fun e => K0.out (hne.out 0 (by decide) e), fun e => K1.out (hne.out 1 (by decide) e), fun e => K2.out (hne.out 2 (by decide) e), fun e => K3.out (hne.out 3 (by decide) e), fun e => K4.out (hne.out 4 (by decide) e), fun e => K5.out (hne.out 5 (by decide) e), fun e => K6.out (hne.out 6 (by decide) e), fun e => K7.out (hne.out 7 (by decide) e), fun e => K8.out (hne.out 8 (by decide) e), fun e => K9.out (hne.out 9 (by decide) e), fun e => K10.out (hne.out 10 (by decide) e), fun e => K11.out (hne.out 11 (by decide) e), fun e => K12.out (hne.out 12 (by decide) e), fun e => K13.out (hne.out 13 (by decide) e), fun e => K14.out (hne.out 14 (by decide) e), fun e => K15.out (hne.out 15 (by decide) e), fun e => K16.out (hne.out 16 (by decide) e), fun e => K17.out (hne.out 17 (by decide) e), fun _ => rfl, fun e => K19.out (hne.out 19 (by decide) e), hB⟩
                · cases ho
                  have d16 := hd ⟨16, .data⟩ (by simp) rfl
                  have d18 := hd ⟨18, .data⟩ (by simp) rfl
                  have d8 := hd ⟨8, .guard⟩ (by simp) rfl
                  obtain rfl := K16.out d16
                  obtain rfl := K18.out d18
                  obtain rfl := K8.out d8
                  refine wpOp_step rfl (fun K hK => ?_)
                  go_simp
                  refine hK _ _ ⟨by simpa using hz, v54, v55, v56, v57, v58, v59, v60, v61, .bool false, v63, v64, v65, v66, v67, v68, v69, .int .i64 d.lev, v71, .int .i64 s.v, .bool (decide (d.lev ≤ s.v)), rfl, ?_⟩
                  exact ⟨fun e => K0.out (hne.out 0 (by decide) e), fun e => K1.out (hne.out 1 (by decide) e), fun e => K2.out (hne.out 2 (by decide) e), fun e => K3.out (hne.out 3 (by decide) e), fun e => K4.out (hne.out 4 (by decide) e), fun e => K5.out (hne.out 5 (by decide) e), fun e => K6.out (hne.out 6 (by decide) e), fun e => K7.out (hne.out 7 (by decide) e), fun e => K8.out (hne.out 8 (by decide) e), fun e => K9.out (hne.out 9 (by decide) e), fun e => K10.out (hne.out 10 (by decide) e), fun e => K11.out (hne.out 11 (by decide) e), fun e => K12.out (hne.out 12 (by decide) e), fun e => K13.out (hne.out 13 (by decide) e), fun e => K14.out (hne.out 14 (by decide) e), fun e => K15.out (hne.out 15 (by decide) e), fun e => K16.out (hne.out 16 (by decide) e), fun e => K17.out (hne.out 17 (by decide) e), fun e => K18.out (hne.out 18 (by decide) e), fun _ => rfl, hB⟩
              case hl =>
                rintro listed aq wx ⟨hz, v54, v55, v56, v57, v58, v59, v60, v61, v62, v63, v64, v65, v66, v67, v68, v69, v70, v71, v72, v73, rfl, hII⟩ hall
                have K0 := Lib.hid hII.1
                have K1 := Lib.hid hII.2.1
                have K2 := Lib.hid hII.2.2.1
                have K3 := Lib.hid hII.2.2.2.1
                have K4 := Lib.hid hII.2.2.2.2.1
                have K5 := Lib.hid hII.2.2.2.2.2.1
                have K6 := Lib.hid hII.2.2.2.2.2.2.1
                have K7 := Lib.hid hII.2.2.2.2.2.2.2.1
                have K8 := Lib.hid hII.2.2.2.2.2.2.2.2.1
                have K9 := Lib.hid hII.2.2.2.2.2.2.2.2.2.1
                have K10 := Lib.hid hII.2.2.2.2.2.2.2.2.2.2.1
                have K11 := Lib.hid hII.2.2.2.2.2.2.2.2.2.2.2.1
                have K12 := Lib.hid hII.2.2.2.2.2.2.2.2.2.2.2.2.1
                have K13 := Lib.hid hII.2.2.2.2.2.2.2.2.2.2.2.2.2.1
                have K14 := Lib.hid hII.2.2.2.2.2.2.2.2.2.2.2.2.2.2.1
                have K15 := Lib.hid hII.2.2.2.2.2.2.2.2.2.2.2.2.2.2.2.1
                have K16 := Lib.hid hII.2.2.2.2.2.2.2.2.2.2.2.2.2.2.2.2.1
                have K17 := Lib.hid hII.2.2.2.2.2.2.2.2.2.2.2.2.2.2.2.2.2.1
                have K18 := Lib.hid hII.2.2.2.2.2.2.2.2.2.2.2.2.2.2.2.2.2.2.1
                have K19 := Lib.hid hII.2.2.2.2.2.2.2.2.2.2.2.2.2.2.2.2.2.2.2.1
                have hB : Below wq.heap.size wq wx := hII.2.2.2.2.2.2.2.2.2.2.2.2.2.2.2.2.2.2.2.2
                clear hII
                obtain rfl := K0.out (hall 0 (by decide))
                obtain rfl := K1.out (hall 1 (by decide))
                obtain rfl := K2.out (hall 2 (by decide))
                obtain rfl := K3.out (hall 3 (by decide))
                obtain rfl := K4.out (hall 4 (by decide))
                obtain rfl := K5.out (hall 5 (by decide))
                obtain rfl := K6.out (hall 6 (by decide))
                obtain rfl := K7.out (hall 7 (by decide))
                obtain rfl := K8.out (hall 8 (by decide))
                obtain rfl := K9.out (hall 9 (by decide))
                obtain rfl := K10.out (hall 10 (by decide))
                obtain rfl := K11.out (hall 11 (by decide))
                obtain rfl := K12.out (hall 12 (by decide))
                obtain rfl := K13.out (hall 13 (by decide))
                obtain rfl := K14.out (hall 14 (by decide))
                obtain rfl := K15.out (hall 15 (by decide))
                obtain rfl := K16.out (hall 16 (by decide))
                obtain rfl := K17.out (hall 17 (by decide))
                obtain rfl := K18.out (hall 18 (by decide))
                obtain rfl := K19.out (hall 19 (by decide))
                clear hall K0 K1 K2 K3 K4 K5 K6 K7 K8 K9 K10 K11 K12 K13 K14 K15 K16 K17 K18 K19
                refine wpOp_step rfl (fun K0 hK0 => ?_)
                go_simp
                refine hK0 _ _ ?_
                clear hK0
                have hBn := Lib.hid (hB2.out.trans (hB.mono (by omega)))
                have hLn := Lib.hid (hLr.out.trans (hB.mono hzr))
                clear hB
                cases hdd : decide (d.lev ≤ s.v)
                · have hT := Lib.hid (show kOk (ds.take k) s.v s.c = true by rw [hKq.out, hdd]; rfl)
                  go_wp2_with fail
                  exact ⟨⟨hLn.out, .inr (.inr (.inr ⟨rfl, ha, hb', hT.out⟩))⟩, by simp [intOf]⟩
                · have hT : kOk (ds.take k) s.v s.c = false := by rw [hKq.out, hdd]; rfl
                  have hFF := Lib.hid (hF.out (show cOk s (ds.take k) = false by rw [hR.out, hT, Bool.and_false]))
                  clear hT
                  go_wp2_with fail
                  go_ret
                  exact ⟨ret_bool hFF.out, hBn.out⟩
            · have hK : kOk (ds.take k) s.v s.c = false := by rw [hKd.out, q3, Bool.false_and]
              rw [q3] at cI
              have hFF := Lib.hid (hF.out (by rw [hR.out, hK, Bool.and_false]))
              have hxc := hWr.out.cell
              have hw1 : IntKind.i64.wrap ((k : Int) - 1) = (k : Int) - 1 := by rw [IntKind.wrap_i64]; omega
              clear hK q1 q3
              go_wp2_with fail
              go_quiet ((go_at_call 65; exact Calls.quiet_of_same ((cI.out _).mono fun _ _ h => ⟨h.1, h.2.symm⟩)))
              go_wp2_with fail
              go_ret
              exact ⟨ret_bool hFF.out, below_drewN hB2.out _⟩
          · have hT := Lib.hid (hA2.out (by rw [hR.out, ha, hb', hc']; rfl))
            go_wp2_with fail
            exact ⟨⟨k + 1, by omega, by go_num, hT.out, hB2.out⟩, by simp [intOf]; omega⟩
    · obtain rfl : n = k := by omega
      have cI := Lib.hid (fun wx => l1In_any (n : Int) 1 121 wx)
      have hR := Lib.hid (show diaOk ds = inB (n : Int) 1 121 by rw [hEh.out, hAll.out, Bool.and_true])
      go_wp2_with (go_at_call 65; refine (cI.out _).mono ?_; rintro e w' ⟨rfl, rfl⟩)
      go_ret
      exact ⟨ret_bool hR.out, hb⟩
end Go.Proofs.Ytghkpmafocacoaa
