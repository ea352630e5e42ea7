/- Parts of the proof: Gl. -/
import Derived.Test.YtghkpmafocacoaaZAN
import Derived.Test.YtghkpmafocacoaaZAP
import Derived.Test.YtghkpmafocacoaaZAL
namespace Go.Proofs.Ytghkpmafocacoaa
set_option maxRecDepth 100000
set_option linter.unusedVariables false
open Go.RowKit
/-- The factor of a statement that draws or weighs. -/
def facStmt (s : St) : Fac := facBy_ (named s) (fun st => s.fac st)
set_option maxHeartbeats 2000000 in
theorem factorOfStmt_any (s : St) (w : World) (hs : s.ok = true) :
    Calls Try.prog 114 #[.agg #[.int .i64 s.k, .int .i64 s.a, .int .i64 s.b, .int .i64 s.c, .int .i64 s.u, .int .i64 s.v, .int .i64 s.x]] w (Fcd w (facStmt s)) := by
  have hB0 : Below w.heap.size w (w.alloc (.cells #[.int .i64 s.k, .int .i64 s.a, .int .i64 s.b, .int .i64 s.c, .int .i64 s.u, .int .i64 s.v, .int .i64 s.x] 116)) := (Below.refl _ _).alloc (Nat.le_refl _) _
  have hbx := Lib.hid (Has.new w 116 #[.int .i64 s.k, .int .i64 s.a, .int .i64 s.b, .int .i64 s.c, .int .i64 s.u, .int .i64 s.v, .int .i64 s.x])
  have hB0h := Lib.hid hB0
  have cN := Lib.hid (fun wx => namedIn_any s wx)
  have cI := Lib.hid (fun (x : Int) (hx : 0 ≤ x ∧ x ≤ 80) wx => weightBehind_any s x wx hs hx)
  have hLb := named_bd s
  have hRes := Lib.hid (show facStmt s = facBy_ (named s) (fun st => s.fac st) from rfl)
  obtain ⟨g, hg_⟩ : ∃ g : Int → Int, (fun st => s.fac st) = g := ⟨_, rfl⟩
  have hgv := Lib.hid (fun x => show g x = s.fac x from by rw [← hg_])
  rw [hg_] at hRes
  rw [hRes.out]
  generalize named s = L at *
  have hLh := Lib.hid hLb
  have cO := Lib.hid (fun wx => blankOver_any L wx hLb)
  have cU := Lib.hid (fun x (hx : 0 ≤ x ∧ x ≤ 80) wx => countedUp_any x L wx hx hLb)
  have hlb := over_len hLb
  have hpb := pow_four hlb
  have hp1 : 0 < 3 ^ (over L).length := Nat.pow_pos (by decide)
  have hall := Lib.hid (facFill_all L g)
  clear hB0 hg_ hRes
  go_enter Try.func114, Try.ntmps114
  go_wp2_with fail
  have hz0 : (w.alloc (.cells #[.int .i64 s.k, .int .i64 s.a, .int .i64 s.b, .int .i64 s.c, .int .i64 s.u, .int .i64 s.v, .int .i64 s.x] 116)).heap.size = w.heap.size + 1 := by simp
  have hr0 := Has.new (w.alloc (.cells #[.int .i64 s.k, .int .i64 s.a, .int .i64 s.b, .int .i64 s.c, .int .i64 s.u, .int .i64 s.v, .int .i64 s.x] 116)) 56 #[.slice none 0 0, .slice none 0 0]
  have hal0 : Below (w.alloc (.cells #[.int .i64 s.k, .int .i64 s.a, .int .i64 s.b, .int .i64 s.c, .int .i64 s.u, .int .i64 s.v, .int .i64 s.x] 116)).heap.size (w.alloc (.cells #[.int .i64 s.k, .int .i64 s.a, .int .i64 s.b, .int .i64 s.c, .int .i64 s.u, .int .i64 s.v, .int .i64 s.x] 116)) _ := (Below.refl _ _).alloc (Nat.le_refl _) (.cells #[.slice none 0 0, .slice none 0 0] 56)
  generalize w.alloc (.cells #[.int .i64 s.k, .int .i64 s.a, .int .i64 s.b, .int .i64 s.c, .int .i64 s.u, .int .i64 s.v, .int .i64 s.x] 116) = W0 at hbx hB0h hz0 hr0 hal0 ⊢
  rw [← hz0]
  generalize W0.alloc (.cells #[.slice none 0 0, .slice none 0 0] 56) = W1 at hr0 hal0 ⊢
  have hr := Lib.hid hr0
  have hB1 := Lib.hid hal0
  have hWW := hB0h.out.size
  clear hr0 hal0 hz0
  refine (cN.out _).mono ?_
  rintro e w2 ⟨rfl, hb2⟩
  have hB2 := Lib.hid (hB1.out.trans (hb2.mono hB1.out.size))
  have hr2 := Lib.hid (hr.out.kept hb2)
  clear hb2
  go_wp2_with fail
  refine (cO.out _).mono ?_
  rintro e w1 ⟨v1, v2, rfl, ⟨hv1, hv2, hvd⟩, hb1⟩
  have hz0 := hB2.out.size
  have hv2' : IOwn w1 W0.heap.size v2 (blankF L).ns := owns_le hv2 hz0
  obtain ⟨D1, e1, rfl, _, _⟩ := hv1.form
  have hv1' : IOwn w1 W0.heap.size (.slice D1 (blankF L).vs.length e1) (blankF L).vs := owns_le hv1 hz0
  have hbl : (blankF L).ns.length = 3 ^ (over L).length := by unfold blankF; exact zs_len _
  obtain ⟨D2, e2, rfl, _, _⟩ := hv2.form
  rw [hbl] at hv2' hvd ⊢
  generalize hMM : 3 ^ (over L).length = Q at *
  have hB3 := Lib.hid (hB2.out.trans (hb1.mono hz0))
  have hR1 := Lib.hid (hr2.out.kept hb1)
  have hbn : (blankF L).ns = zs Q := by unfold blankF; rw [hMM]
  rw [hbn] at hv2'
  rw [show (blankF L).vs = over L from rfl] at hv1' hvd ⊢
  have hv2o : w1.ownsRow W0.heap.size 3 1 (.slice D2 Q e2) Q (ints (zs Q)) := by
    have h1 := hv2'
    unfold IOwn at h1
    rwa [zs_len] at h1
  obtain ⟨g2, cur2, rfl, hg2, _, hc2a, hc2b, _, _⟩ := owns_open hv2o hp1
  clear hv2o
  have hd2 := Lib.hid (fun (e : (Value.slice D1 (over L).length e1).ownBlock = some g2) => hvd g2 e (by simp [Value.ownBlock]))
  have hN0 := Lib.hid (show FacN W0 _ w1.heap.size (.slice D1 (over L).length e1) (.slice (some ⟨g2, 0, none⟩) Q e2) (over L) (zs Q) from ⟨hv2'.alloc (.cells #[.slice D1 (over L).length e1, .slice (some ⟨g2, 0, none⟩) Q e2] 56), hv1'.alloc _, Has.new w1 _ _, hR1.out.alloc _, hB3.out.alloc hB3.out.size _⟩)
  have hst0 := Lib.hid (stOf_zero (L := L) (over L) (over_in hLh.out))
  clear hv1 hv2 hv1' hv2' hvd hbn hbl hb1
  go_wp2_with fail
  generalize w1.alloc (.cells #[.slice D1 (over L).length e1, .slice (some ⟨g2, 0, none⟩) Q e2] 56) = W2 at hN0 ⊢
  generalize w1.heap.size = G at hN0 ⊢
  go_loopg [5, 14] Q (fun gn o vv wr => ∃ k : Nat, k ≤ Q ∧ gn = Q - k ∧ vv = .int .i64 k ∧ o = .int .i64 (stOf (over L) (k : Int)) ∧ FacN W0 wr G (.slice D1 (over L).length e1) (.slice (some ⟨g2, 0, none⟩) Q e2) (over L) (facFill L g Q k))
  case atStart => exact ⟨0, Nat.zero_le _, rfl, rfl, by rw [show ((0 : Nat) : Int) = 0 from rfl, hst0.out], hN0.out⟩
  case round =>
    obtain ⟨k, hk, hgn, rfl, rfl, hN⟩ := hrel
    have hgk : gk = Q - k := hgn
    have hNa := Lib.hid hN
    clear hgn hN
    by_cases hlt : k < Q
    · have hlx := facFill_len (L := L) (g := g) hk
      obtain ⟨y, hgx⟩ : ∃ y, (facFill L g Q k)[k]? = some y := ⟨_, List.getElem?_eq_getElem (by omega)⟩
      have hk0 : (0 : Int) ≤ (k : Int) := by omega
      have hk1 : (k : Int) < (Q : Int) := by omega
      have hsb := stOver_bd hLh.out (i := k)
      have hnx := Lib.hid (facFill_next (L := L) (g := g) hlt)
      have hcu := Lib.hid (cu_st_ hLh.out (i := k) (by rw [hMM]; exact hlt))
      generalize stOf (over L) (k : Int) = x at hsb hnx hcu ⊢
      have cI' := Lib.hid (cI.out x hsb)
      rw [hgv.out] at hnx
      generalize s.fac x = z at hnx cI'
      generalize facFill L g Q k = ds at *
      go_wp2_with fail
      refine wp_region_any (by kernel_rfl) ?_
      change wpAny _ _ _ _ _ _ _ (World.drew _)
      refine wpAny_last (n := 7) (I := fun listed aq wx => listed.size = 8 ∧ ∃ v17 v18 v19 v20 v21 v22 v23 : Value, aq = { tmps := #[.agg #[.int .i64 s.k, .int .i64 s.a, .int .i64 s.b, .int .i64 s.c, .int .i64 s.u, .int .i64 s.v, .int .i64 s.x], .pointer (some ⟨w.heap.size, 0, none⟩), .pointer (some ⟨W0.heap.size, 0, none⟩), .int .i64 L, .pointer (some ⟨G, 0, none⟩), .int .i64 x, .int .i64 ↑k, .agg #[.int .i64 s.k, .int .i64 s.a, .int .i64 s.b, .int .i64 s.c, .int .i64 s.u, .int .i64 s.v, .int .i64 s.x], .int .i64 L, .int .i64 L, .agg #[.slice D1 (over L).length e1, .slice (some ⟨g2, 0, none⟩) Q e2], .pointer (some ⟨G, 1, none⟩), .slice (some ⟨g2, 0, none⟩) Q e2, .int .i64 ↑Q, .int .i64 ↑k, .bool true, .int .i64 ↑k, v17, v18, v19, v20, v21, v22, v23, u24, u25, u26, u27, undef], defers := [] } ∧ (listed.getD 0 false = true → v17 = .pointer (some ⟨G, 1, none⟩)) ∧ (listed.getD 1 false = true → v18 = .slice (some ⟨g2, 0, none⟩) Q e2) ∧ (listed.getD 2 false = true → v19 = .int .i64 ↑k) ∧ (listed.getD 3 false = true → v20 = .agg #[.int .i64 s.k, .int .i64 s.a, .int .i64 s.b, .int .i64 s.c, .int .i64 s.u, .int .i64 s.v, .int .i64 s.x]) ∧ (listed.getD 4 false = true → v21 = .int .i64 x) ∧ (listed.getD 5 false = true → v22 = .int .i64 z) ∧ (listed.getD 6 false = true → v23 = .pointer (some ⟨g2, k, none⟩)) ∧ Below wr.heap.size wr wx) rfl (by kernel_rfl) (by kernel_rfl) ?hs ?hl _ _ _ ?st rfl (by decide) _ (by decide)
      case st =>
        refine ⟨rfl, u17, u18, u19, u20, u21, u22, u23, rfl, ?_, ?_, ?_, ?_, ?_, ?_, ?_, (Below.refl _ _).drew⟩ <;> (intro e; exact absurd e (by decide))
      case hs =>
        rintro listed aq wx ⟨hz, v17, v18, v19, v20, v21, v22, v23, rfl, hII⟩ i hin hi
        obtain ⟨h0, o, ho, hd⟩ := mem_ready.1 hi
        have K0 := Lib.hid hII.1
        have K1 := Lib.hid hII.2.1
        have K2 := Lib.hid hII.2.2.1
        have K3 := Lib.hid hII.2.2.2.1
        have K4 := Lib.hid hII.2.2.2.2.1
        have K5 := Lib.hid hII.2.2.2.2.2.1
        have K6 := Lib.hid hII.2.2.2.2.2.2.1
        have hB : Below wr.heap.size wr wx := hII.2.2.2.2.2.2.2
        have hne := Lib.hid (fun k (hk : i ≠ k) => @listed_ne listed i k hk)
        have hNx := hNa.out.below hB
        have hA := hNx.2.2.1
        have hfx := hbx.out.kept hNx.2.2.2.2
        have h0f : listed.getD i false = false := by rw [Array.getD_eq_getD_getElem?, getD_false h0]; rfl
        clear hII hi h0
        rcases (by omega : i = 0 ∨ i = 1 ∨ i = 2 ∨ i = 3 ∨ i = 4 ∨ i = 5 ∨ i = 6) with rfl | rfl | rfl | rfl | rfl | rfl | rfl
        · cases ho
          refine wpOp_step rfl (fun K hK => ?_)
          go_simp
          refine hK _ _ ⟨by simpa using hz, .pointer (some ⟨G, 1, none⟩), v18, v19, v20, v21, v22, v23, rfl, ?_⟩
          exact ⟨fun _ => rfl, fun e => K1.out (hne.out 1 (by decide) e), fun e => K2.out (hne.out 2 (by decide) e), fun e => K3.out (hne.out 3 (by decide) e), fun e => K4.out (hne.out 4 (by decide) e), fun e => K5.out (hne.out 5 (by decide) e), fun e => K6.out (hne.out 6 (by decide) e), hB⟩
        · cases ho
          have d0 := hd ⟨0, .data⟩ (by simp) rfl
          obtain rfl := K0.out d0
          have hxc := hA.cell
          refine wpOp_step rfl (fun K hK => ?_)
          go_simp
          refine hK _ _ ⟨by simpa using hz, .pointer (some ⟨G, 1, none⟩), .slice (some ⟨g2, 0, none⟩) Q e2, v19, v20, v21, v22, v23, rfl, ?_⟩
          exact ⟨fun e => K0.out (hne.out 0 (by decide) e), fun _ => rfl, fun e => K2.out (hne.out 2 (by decide) e), fun e => K3.out (hne.out 3 (by decide) e), fun e => K4.out (hne.out 4 (by decide) e), fun e => K5.out (hne.out 5 (by decide) e), fun e => K6.out (hne.out 6 (by decide) e), hB⟩
        · cases ho
          refine wpOp_step rfl (fun K hK => ?_)
          go_simp
          refine hK _ _ ⟨by simpa using hz, v17, v18, .int .i64 ↑k, v20, v21, v22, v23, rfl, ?_⟩
          exact ⟨fun e => K0.out (hne.out 0 (by decide) e), fun e => K1.out (hne.out 1 (by decide) e), fun _ => rfl, fun e => K3.out (hne.out 3 (by decide) e), fun e => K4.out (hne.out 4 (by decide) e), fun e => K5.out (hne.out 5 (by decide) e), fun e => K6.out (hne.out 6 (by decide) e), hB⟩
        · cases ho
          have hfc := hfx.cell
          refine wpOp_step rfl (fun K hK => ?_)
          go_simp
          refine hK _ _ ⟨by simpa using hz, v17, v18, v19, .agg #[.int .i64 s.k, .int .i64 s.a, .int .i64 s.b, .int .i64 s.c, .int .i64 s.u, .int .i64 s.v, .int .i64 s.x], v21, v22, v23, rfl, ?_⟩
          exact ⟨fun e => K0.out (hne.out 0 (by decide) e), fun e => K1.out (hne.out 1 (by decide) e), fun e => K2.out (hne.out 2 (by decide) e), fun _ => rfl, fun e => K4.out (hne.out 4 (by decide) e), fun e => K5.out (hne.out 5 (by decide) e), fun e => K6.out (hne.out 6 (by decide) e), hB⟩
        · cases ho
          refine wpOp_step rfl (fun K hK => ?_)
          go_simp
          refine hK _ _ ⟨by simpa using hz, v17, v18, v19, v20, .int .i64 x, v22, v23, rfl, ?_⟩
          exact ⟨fun e => K0.out (hne.out 0 (by decide) e), fun e => K1.out (hne.out 1 (by decide) e), fun e => K2.out (hne.out 2 (by decide) e), fun e => K3.out (hne.out 3 (by decide) e), fun _ => rfl, fun e => K5.out (hne.out 5 (by decide) e), fun e => K6.out (hne.out 6 (by decide) e), hB⟩
        · cases ho
          have d3 := hd ⟨3, .data⟩ (by simp) rfl
          have d4 := hd ⟨4, .data⟩ (by simp) rfl
          obtain rfl := K3.out d3
          obtain rfl := K4.out d4
          refine wpOp_step rfl (fun K hK => ?_)
          go_simp
          go_at_call 154
          refine (cI'.out _).mono ?_
          rintro e w3 ⟨rfl, hb3⟩
          refine hK _ _ ⟨by simpa using hz, v17, v18, v19, .agg #[.int .i64 s.k, .int .i64 s.a, .int .i64 s.b, .int .i64 s.c, .int .i64 s.u, .int .i64 s.v, .int .i64 s.x], .int .i64 x, .int .i64 z, v23, rfl, ?_⟩
          exact ⟨fun e => K0.out (hne.out 0 (by decide) e), fun e => K1.out (hne.out 1 (by decide) e), fun e => K2.out (hne.out 2 (by decide) e), fun e => K3.out (hne.out 3 (by decide) e), fun e => K4.out (hne.out 4 (by decide) e), fun _ => rfl, fun e => K6.out (hne.out 6 (by decide) e), hB.trans (hb3.mono hB.size)⟩
        · cases ho
          have d1 := hd ⟨1, .data⟩ (by simp) rfl
          have d2 := hd ⟨2, .data⟩ (by simp) rfl
          obtain rfl := K1.out d1
          obtain rfl := K2.out d2
          refine wpOp_step rfl (fun K hK => ?_)
          go_simp
          refine hK _ _ ⟨by simpa using hz, v17, .slice (some ⟨g2, 0, none⟩) Q e2, .int .i64 ↑k, v20, v21, v22, .pointer (some ⟨g2, k, none⟩), rfl, ?_⟩
          exact ⟨fun e => K0.out (hne.out 0 (by decide) e), fun e => K1.out (hne.out 1 (by decide) e), fun e => K2.out (hne.out 2 (by decide) e), fun e => K3.out (hne.out 3 (by decide) e), fun e => K4.out (hne.out 4 (by decide) e), fun e => K5.out (hne.out 5 (by decide) e), fun _ => rfl, hB⟩
      case hl =>
        rintro listed aq wx ⟨hz, v17, v18, v19, v20, v21, v22, v23, rfl, hII⟩ hall
        have K0 := Lib.hid hII.1
        have K1 := Lib.hid hII.2.1
        have K2 := Lib.hid hII.2.2.1
        have K3 := Lib.hid hII.2.2.2.1
        have K4 := Lib.hid hII.2.2.2.2.1
        have K5 := Lib.hid hII.2.2.2.2.2.1
        have K6 := Lib.hid hII.2.2.2.2.2.2.1
        have hB : Below wr.heap.size wr wx := hII.2.2.2.2.2.2.2
        have hNx := hNa.out.below hB
        have hA := hNx.2.2.1
        have hfx := hbx.out.kept hNx.2.2.2.2
        clear hII
        obtain rfl := K0.out (hall 0 (by decide))
        obtain rfl := K1.out (hall 1 (by decide))
        obtain rfl := K2.out (hall 2 (by decide))
        obtain rfl := K3.out (hall 3 (by decide))
        obtain rfl := K4.out (hall 4 (by decide))
        obtain rfl := K5.out (hall 5 (by decide))
        obtain rfl := K6.out (hall 6 (by decide))
        clear hall K0 K1 K2 K3 K4 K5 K6
        have hcc := (hNx.cell hlx hgx).1
        have hff := (hNx.cell hlx hgx).2
        refine wpOp_step rfl (fun K0 hK0 => ?_)
        go_simp
        refine hK0 _ _ ?_
        clear hK0
        have hP1 := Lib.hid (hNx.put hd2.out hlx hlt hg2 z)
        rw [hnx.out] at hP1
        clear hcc hff hNx hA hfx
        go_wp2_with fail
        refine (cU.out x hsb _).mono ?_
        rintro e w' ⟨rfl, rfl⟩
        go_wp2_with fail
        go_roundg (Q - (k + 1))
        case measure => omega
        case rel => exact ⟨k + 1, by omega, rfl, by go_num, by rw [hcu.out], hP1.out⟩
    · obtain rfl : k = Q := by omega
      obtain ⟨h1, h2, h3, h4, h5⟩ := hNa.out
      rw [hall.out] at h1
      have cA := h3.cell
      have cR := h4.cell
      have fR := h4.frozen
      have hWW := hB0h.out.size
      have hB9 := hB0h.out.trans (h5.mono hWW)
      have hKp := Lib.hid ((((KeptBut.refl wr (fun i => i = W0.heap.size)).put (p := ⟨W0.heap.size, 0, none⟩) (fun _ => rfl) (.slice D1 (over L).length e1)).put (p := ⟨W0.heap.size, 1, none⟩) (fun _ => rfl) (.slice (some ⟨g2, 0, none⟩) k e2)))
      have hr1 := (h4.put 0 (.slice D1 (over L).length e1)).cell 0
      have hr2 := ((h4.put 0 (.slice D1 (over L).length e1)).put 1 (.slice (some ⟨g2, 0, none⟩) k e2)).cell 1
      go_wp2_with fail
      refine bodyPost_ret (v := .agg #[.slice D1 (over L).length e1, .slice (some ⟨g2, 0, none⟩) k e2]) (by simp [results, Try.results114, go_sem, hr1, hr2]) rfl ⟨_, _, rfl, ⟨?_, ?_, ?_⟩, ?_⟩
      · exact owns_le (h2.but hKp.out (fun k hk e => iown_ne h2 h4 (by decide) k hk e)) hWW
      · exact owns_le (h1.but hKp.out (fun k hk e => iown_ne h1 h4 (by decide) k hk e)) hWW
      · intro b hb1 hb2
        have e1 : g2 = b := by simpa [Value.ownBlock] using hb2
        exact hd2.out (e1 ▸ hb1)
      · exact (hB9.setCell (p := ⟨W0.heap.size, 0, none⟩) hWW _).setCell (p := ⟨W0.heap.size, 1, none⟩) hWW _
end Go.Proofs.Ytghkpmafocacoaa
