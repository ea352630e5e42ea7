/- For every two lists of bytes: of a drawn statement what the program says it reads and sets is what the model says, and are variables; a state with a value has it, and keeps all others. No condition. -/
import Derived.Test.YtodchhakbljncaaRows
import Derived.Test.YtodchhakbljncaaStS
import Derived.Test.YtodchhakbljncaaDrS
import Derived.ProofKit
import Derived.OpenShut
import Derived.ShutString
import Derived.ChangeOld
import Derived.Below
namespace Go.Proofs.Ytodchhakbljncaa.fnStmts
open Go.ChangeShapes Go.WideShapes Go.ChangeAt Go.RowKit 
set_option linter.unusedVariables false

theorem own : ownKnob Try.prog.godebug = none := by kernel_rfl
theorem laidOut : laidOutB Try.prog = true := by kernel_rfl

theorem open_bytes {H : Type} {enc : TypeId × Value → H} {w : World} {b0 : Nat} {r : Reach} {v : Value} {d : DataW H} {p : List MemPlace} (hv : Value.okWide Try.prog w r b0 22 v) (h : DataW.Trod enc Try.prog w 0 (fun _ => true) true 22 v d p) :
    ∃ (A : Option Addr) (n c : Nat), v = .slice A n c ∧ n ≤ c ∧ c ≤ maxLen ∧ Byt w w.heap.size A n := by
  obtain ⟨A, n, c, rfl⟩ := okWide_slice Try.underlying22 hv
  obtain ⟨fuel, hf⟩ := h
  rcases open_ints Try.underlying22 Try.underlying5 (by kernel_rfl) hf with ⟨hcs, _⟩ | ⟨x, l, c', zs, hcs, _, hl, hm, hz, _, hcell, hwz⟩
  · simp [Value.cells] at hcs
    obtain ⟨rfl, rfl, rfl⟩ := hcs
    exact ⟨none, 0, 0, rfl, Nat.le_refl _, by simp [maxLen], fun h => absurd h (by omega)⟩
  · simp [Value.cells] at hcs
    obtain ⟨rfl, rfl, rfl⟩ := hcs
    refine ⟨some x, n, c, rfl, hl, hm, fun hn => ?_⟩
    have hz' : zs.length = c := by simpa using hz
    obtain ⟨g, off, spot⟩ := x
    have h0 := hcell 0 (by omega)
    have hspot : spot = none := by simpa [Addr.add] using World.cell?_spot h0
    subst hspot
    have hlt := World.block_lt_of_cell? w _ h0
    refine ⟨g, off, rfl, by simpa [Addr.add] using hlt, fun i hi => ?_⟩
    have hi' : i < zs.length := by omega
    have hw := hwz (zs.getD i 0) (by rw [List.getD_eq_getElem?_getD, List.getElem?_eq_getElem hi']; exact List.getElem_mem hi')
    have hbd := bounds_u8 hw
    refine ⟨zs.getD i 0, ?_, hbd.1, hbd.2⟩
    rw [← hcell i hi']
    congr 1
    unfold Addr.add
    split
    · (rename_i h0; simp; try omega)
    · (simp; try omega)

theorem back_bd {s v x : Int} (h : 0 ≤ withValue s v x) : (0 ≤ s ∧ s ≤ 80) ∧ (0 ≤ v ∧ v ≤ 3) ∧ 0 ≤ x ∧ x ≤ 2 := by
  unfold withValue at h
  split at h
  · rename_i h1
    exact ⟨inB_iff.1 h1.1, inB_iff.1 h1.2.1, inB_iff.1 h1.2.2⟩
  · omega

theorem four {P : Int → Prop} (h0 : P 0) (h1 : P 1) (h2 : P 2) (h3 : P 3) {v : Int} (a : 0 ≤ v) (b : v ≤ 3) : P v := by
  obtain rfl | rfl | rfl | rfl := bit_cases a b <;> assumption

theorem with_val {s v x : Int} (hs : 0 ≤ s ∧ s ≤ 80) (hv : 0 ≤ v ∧ v ≤ 3) (hx : 0 ≤ x ∧ x ≤ 2) :
    (0 ≤ withValue s v x ∧ withValue s v x ≤ 80) ∧ (∀ i, 0 ≤ i → i ≤ 3 → i ≠ v → valueAt (withValue s v x) i = valueAt s i) ∧ valueAt (withValue s v x) v = x ∧ withValue (withValue s v x) v (valueAt s v) = s := by
  have e1 : ∀ {s : Int}, 0 ≤ s ∧ s ≤ 80 → ∀ k : Nat, k ≤ 3 → valueAt s k = s / p3 k % 3 := fun h k hk => valueAt_yes h.1 h.2 rfl hk
  have e2 : ∀ {s x : Int}, 0 ≤ s ∧ s ≤ 80 → 0 ≤ x ∧ x ≤ 2 → ∀ k : Nat, k ≤ 3 → withValue s k x = s + (x - s / p3 k % 3) * p3 k := fun h hx k hk => withValue_yes h.1 h.2 rfl hk hx.1 hx.2
  obtain ⟨k, rfl, hk⟩ := nat4 hv.1 hv.2
  rw [e2 hs hx k hk, e1 hs k hk]
  have hr : 0 ≤ s + (x - s / p3 k % 3) * p3 k ∧ s + (x - s / p3 k % 3) * p3 k ≤ 80 := by
    obtain rfl | rfl | rfl | rfl : k = 0 ∨ k = 1 ∨ k = 2 ∨ k = 3 := by omega
    all_goals simp only [p3]; omega
  refine ⟨hr, fun i h0 h3 hne => ?_, ?_, ?_⟩
  · obtain ⟨j, rfl, hj⟩ := nat4 h0 h3
    rw [e1 hr j hj, e1 hs j hj]
    obtain rfl | rfl | rfl | rfl : k = 0 ∨ k = 1 ∨ k = 2 ∨ k = 3 := by omega
    all_goals
      obtain rfl | rfl | rfl | rfl : j = 0 ∨ j = 1 ∨ j = 2 ∨ j = 3 := by omega
      all_goals first | (exact absurd rfl hne) | (simp only [p3]; omega)
  · rw [e1 hr k hk]
    obtain rfl | rfl | rfl | rfl : k = 0 ∨ k = 1 ∨ k = 2 ∨ k = 3 := by omega
    all_goals simp only [p3]; omega
  · rw [e2 hr (by omega) k hk]
    obtain rfl | rfl | rfl | rfl : k = 0 ∨ k = 1 ∨ k = 2 ∨ k = 3 := by omega
    all_goals simp only [p3]; omega

theorem reads_bd (s : St) : 0 ≤ s.reads ∧ s.reads ≤ 15 := by
  obtain ⟨k, a, b, c, u, v, x⟩ := s
  unfold St.reads
  split
  · rename_i h
    have hr := ok_rng h
    have ha := bitN_bd a
    have hb := bitN_bd b
    have hab : 0 ≤ a → a ≤ 3 → 0 ≤ b → b ≤ 3 → a ≠ b → bitN a + bitN b ≤ 15 := fun a0 a1 b0 b1 hne => by
      obtain rfl | rfl | rfl | rfl := bit_cases a0 a1 <;> obtain rfl | rfl | rfl | rfl := bit_cases b0 b1
      all_goals first | (exact absurd rfl hne) | decide +kernel
    dsimp only
    split
    · omega
    · split
      · rename_i h1 h2
        have := hab (by omega) (by omega) (by omega) (by omega) (by omega)
        omega
      · split <;> omega
  · omega

theorem bt {a w q : World} {R : Prop} (h : Below a.heap.size a w ∧ R) (hq : Below w.heap.size w q) : Below a.heap.size a q := h.1.trans (hq.mono h.1.size)

theorem s_of {w wx : World} {g : Nat} {t : TypeId} {k a b d u v x : Value} (ho : Has w g t #[k, a, b, d, u, v, x]) (h : Below w.heap.size w wx) :
    Below w.heap.size w wx ∧ wx.cell? ⟨g, 0, none⟩ = some k ∧ wx.cell? ⟨g, 1, none⟩ = some a ∧ wx.cell? ⟨g, 2, none⟩ = some b ∧ wx.cell? ⟨g, 3, none⟩ = some d ∧ wx.cell? ⟨g, 4, none⟩ = some u ∧ wx.cell? ⟨g, 5, none⟩ = some v ∧ wx.cell? ⟨g, 6, none⟩ = some x :=
  ⟨h, (ho.kept h).cell 0, (ho.kept h).cell 1, (ho.kept h).cell 2, (ho.kept h).cell 3, (ho.kept h).cell 4, (ho.kept h).cell 5, (ho.kept h).cell 6⟩

set_option maxRecDepth 100000 in
set_option maxHeartbeats 4000000 in
theorem walk {H : Type} (enc : TypeId × Value → H) (W : World) (base : Nat) (v0 : Value) (d0 : DataW H) (p0 : List MemPlace) (hv0 : Value.okWide Try.prog W .any base 22 v0)
    (h0 : DataW.Trod enc Try.prog W 0 (fun _ => true) true 22 v0 d0 p0) (_ : ∀ x ∈ p0, x.block < W.heap.size)
    (v1 : Value) (d1 : DataW H) (p1 : List MemPlace) (hv1 : Value.okWide Try.prog W .any base 22 v1)
    (h1 : DataW.Trod enc Try.prog W 0 (fun _ => true) true 22 v1 d1 p1) (_ : ∀ x ∈ p1, x.block < W.heap.size) :
    Calls Try.prog 4 #[v0, v1] W fun e w' => e = .returned (.bool true) ∧ Below W.heap.size W w' := by
  obtain ⟨A, n, c, rfl, hn, hc, hb⟩ := open_bytes hv0 h0
  obtain ⟨A2, n2, c2, rfl, hn2, hc2, hb2⟩ := open_bytes hv1 h1
  clear hv0 h0 hv1 h1
  have hcM := Lib.hid hc
  have hcM2 := Lib.hid hc2
  have hnn : n ≤ 9223372036854775807 := by unfold maxLen at hc; omega
  have hnn2 : n2 ≤ 9223372036854775807 := by unfold maxLen at hc2; omega
  clear hc hc2
  by_cases h1 : 1048576 < n
  · go_enter Try.func4, Try.ntmps4
    go_wp2_with fail
    go_ret
    exact ⟨rfl, Below.refl _ _⟩
  by_cases h2 : 1048576 < n2
  · go_enter Try.func4, Try.ntmps4
    go_wp2_with fail
    go_ret
    exact ⟨rfl, Below.refl _ _⟩
  go_enter Try.func4, Try.ntmps4
  go_wp2_with fail
  refine (DrawStmtReads_any A n c _ hb hn hcM.out).mono ?_
  rintro e w1 ⟨k, a, b, d, u, v, x, rfl, hB1⟩
  have ho := Has.new w1 32 #[.int .i64 k, .int .i64 a, .int .i64 b, .int .i64 d, .int .i64 u, .int .i64 v, .int .i64 x]
  have hB1' := hB1.alloc hB1.size (.cells #[.int .i64 k, .int .i64 a, .int .i64 b, .int .i64 d, .int .i64 u, .int .i64 v, .int .i64 x] 32)
  go_wp2_with fail
  refine (DrawWithValue_any A2 n2 c2 _ ((hb2.keep hB1').more hB1'.size) hn2 hcM2.out).mono ?_
  rintro e w2 ⟨st, vv, xx, rfl, hb3⟩
  have hB2 := hB1'.trans (hb3.mono hB1'.size)
  replace ho := ho.kept hb3
  clear hB1 hB1' hb3 hb hb2
  have hWV := Lib.hid (fun (h : 0 ≤ withValue st vv xx) => with_val (back_bd h).1 (back_bd h).2.1 (back_bd h).2.2)
  have hBd := Lib.hid (fun (h : 0 ≤ withValue st vv xx) => back_bd h)
  go_wp2_with fail
  refine (WithValue_any _ _ _ _).mono ?_
  rintro e w3 ⟨rfl, rfl⟩
  have co := ho.cell
  have hOk := Lib.hid (fun (wx : World) (h : Below w2.heap.size w2 wx) => s_of ho h)
  go_wp2_with fail
  go_region_held3 (fun wx => Below w2.heap.size w2 wx ∧ wx.cell? ⟨w1.heap.size, 0, none⟩ = some (.int .i64 k) ∧ wx.cell? ⟨w1.heap.size, 1, none⟩ = some (.int .i64 a) ∧ wx.cell? ⟨w1.heap.size, 2, none⟩ = some (.int .i64 b) ∧ wx.cell? ⟨w1.heap.size, 3, none⟩ = some (.int .i64 d) ∧ wx.cell? ⟨w1.heap.size, 4, none⟩ = some (.int .i64 u) ∧ wx.cell? ⟨w1.heap.size, 5, none⟩ = some (.int .i64 v) ∧ wx.cell? ⟨w1.heap.size, 6, none⟩ = some (.int .i64 x)) (first | exact hOk.out _ ((Below.refl _ _).drew) | exact hOk.out _ (bt (by assumption) hbq) | go_keep) ((first | (go_at_call 22; refine (StmtOk_any k a b d u v x _).mono ?_; rintro e q ⟨rfl, hbq⟩) | (go_at_call 27; refine (specStmtOk_any k a b d u v x _).mono ?_; rintro e q ⟨rfl, hbq⟩) | (go_at_call 28; refine (StmtReads_any k a b d u v x _).mono ?_; rintro e q ⟨rfl, hbq⟩) | (go_at_call 29; refine (specStmtReads_any k a b d u v x _).mono ?_; rintro e q ⟨rfl, hbq⟩) | (go_at_call 30; refine (StmtSets_any k a b d u v x _).mono ?_; rintro e q ⟨rfl, hbq⟩) | (go_at_call 31; refine (specStmtSets_any k a b d u v x _).mono ?_; rintro e q ⟨rfl, hbq⟩) | (go_at_call 32; refine (specWithValue_any st vv xx _).mono ?_; rintro e q ⟨rfl, hqq⟩; subst hqq)))
  rename_i hHeld
  have hBq : Below W.heap.size W q := hB2.trans (hHeld.1.mono hB2.size)
  replace ho := ho.kept hHeld.1
  clear hHeld hOk co
  have co := ho.cell
  have hrb := reads_bd (St.mk k a b d u v x)
  have hRN := Lib.hid (fun h => reads_no (s := St.mk k a b d u v x) h)
  have hSN := Lib.hid (fun h => sets_no (s := St.mk k a b d u v x) h)
  generalize hrd : (St.mk k a b d u v x).reads = rd at hrb hRN
  have hRd := Lib.hid hrd
  clear hrd
  generalize hst : (St.mk k a b d u v x).sets = sd at hSN
  have hSd := Lib.hid hst
  clear hst
  have hsh : (rd / 16 != 0) = false := by simp; omega
  cases hok : (St.mk k a b d u v x).ok
  · go_wp2_with fail
    refine (StmtOk_any k a b d u v x _).mono ?_
    rw [hok]
    rintro e q1 ⟨rfl, g1⟩
    have hBq1 := hBq.trans (g1.mono hBq.size)
    clear co
    replace ho := ho.kept g1
    clear g1
    have co := ho.cell
    go_wp2_with fail
    refine (StmtReads_any k a b d u v x _).mono ?_
    rw [hRd.out, hRN.out hok]
    rintro e q2 ⟨rfl, g2⟩
    have hBq2 := hBq1.trans (g2.mono hBq1.size)
    clear co
    replace ho := ho.kept g2
    clear g2
    have co := ho.cell
    go_wp2_with fail
    refine (StmtSets_any k a b d u v x _).mono ?_
    rw [hSd.out, hSN.out hok]
    rintro e q3 ⟨rfl, g3⟩
    have hBq3 := hBq2.trans (g3.mono hBq2.size)
    clear co
    replace ho := ho.kept g3
    clear g3
    have co := ho.cell
    go_wp2_with fail
    refine (StmtReads_any k a b d u v x _).mono ?_
    rw [hRd.out, hRN.out hok]
    rintro e q4 ⟨rfl, g4⟩
    have hBq4 := hBq3.trans (g4.mono hBq3.size)
    clear co
    replace ho := ho.kept g4
    clear g4
    have co := ho.cell
    clear co ho
    have hfin := hBq4
    by_cases hx : withValue st vv xx < 0
    · go_wp2_with (first | (go_at_call 33; refine (ValueAt_any _ _ _).mono ?_; rintro e w' ⟨rfl, rfl⟩) | (go_at_call 34; refine (specValueAt_any _ _ _).mono ?_; rintro e w' ⟨rfl, rfl⟩))
      go_ret
      exact ⟨rfl, hfin⟩
    · obtain ⟨⟨b1, b2⟩, ⟨b3, b4⟩, b5, b6⟩ := hBd.out (by omega)
      obtain ⟨⟨x1, x2⟩, x3, x4, x5⟩ := hWV.out (by omega)
      generalize hX : withValue st vv xx = X at hx x1 x2 x3 x4 x5 ⊢
      have hX' := Lib.hid hX
      have hx3 := Lib.hid x3
      have hx4 := Lib.hid x4
      have hx5 := Lib.hid x5
      clear hX x3 x4 x5 hWV hBd
      go_wp2_with fail
      go_loop [10] (fun i => ∃ j : Nat, j ≤ 4 ∧ i = .int .i64 j) (fun i => 4 - (intOf i).toNat)
      case atStart => exact ⟨0, by omega, rfl⟩
      case round =>
        obtain ⟨j, hj, rfl⟩ := hrel
        by_cases hlt : j < 4
        · by_cases hjv : (j : Int) = vv
          · have hne : ((j : Int) != vv) = false := by simp [hjv]
            have hjv' := Lib.hid hjv
            clear hjv
            go_wp2
            go_round
            case rel => exact ⟨j + 1, by omega, by go_num⟩
            case measure => (simp [intOf]; try omega)
          · have hne : ((j : Int) != vv) = true := by simp [hjv]
            have hval := Lib.hid (hx3.out j (by omega) (by omega) hjv)
            clear hjv
            go_wp2_with fail
            refine (ValueAt_any X j _).mono ?_
            rw [hval.out]
            rintro e w' ⟨rfl, rfl⟩
            go_wp2_with fail
            refine (ValueAt_any st j _).mono ?_
            rintro e w' ⟨rfl, rfl⟩
            go_wp2_with fail
            go_round
            case rel => exact ⟨j + 1, by omega, by go_num⟩
            case measure => (simp [intOf]; try omega)
        · go_wp2_with fail
          refine (ValueAt_any X vv _).mono ?_
          rw [hx4.out]
          rintro e w' ⟨rfl, rfl⟩
          go_wp2_with fail
          refine (ValueAt_any st vv _).mono ?_
          rintro e w' ⟨rfl, rfl⟩
          go_wp2_with fail
          refine (WithValue_any X vv _ _).mono ?_
          rw [hx5.out]
          rintro e w' ⟨rfl, rfl⟩
          go_wp2_with fail
          go_ret
          exact ⟨rfl, hfin⟩
  · go_wp2_with fail
    refine (StmtOk_any k a b d u v x _).mono ?_
    rw [hok]
    rintro e q1 ⟨rfl, g1⟩
    have hBq1 := hBq.trans (g1.mono hBq.size)
    clear co
    replace ho := ho.kept g1
    clear g1
    have co := ho.cell
    go_wp2_with fail
    refine (StmtReads_any k a b d u v x _).mono ?_
    rw [hRd.out]
    rintro e q2 ⟨rfl, g2⟩
    have hBq2 := hBq1.trans (g2.mono hBq1.size)
    clear co
    replace ho := ho.kept g2
    clear g2
    have co := ho.cell
    clear co ho
    have hfin := hBq2
    by_cases hx : withValue st vv xx < 0
    · go_wp2_with (first | (go_at_call 33; refine (ValueAt_any _ _ _).mono ?_; rintro e w' ⟨rfl, rfl⟩) | (go_at_call 34; refine (specValueAt_any _ _ _).mono ?_; rintro e w' ⟨rfl, rfl⟩))
      go_ret
      exact ⟨rfl, hfin⟩
    · obtain ⟨⟨b1, b2⟩, ⟨b3, b4⟩, b5, b6⟩ := hBd.out (by omega)
      obtain ⟨⟨x1, x2⟩, x3, x4, x5⟩ := hWV.out (by omega)
      generalize hX : withValue st vv xx = X at hx x1 x2 x3 x4 x5 ⊢
      have hX' := Lib.hid hX
      have hx3 := Lib.hid x3
      have hx4 := Lib.hid x4
      have hx5 := Lib.hid x5
      clear hX x3 x4 x5 hWV hBd
      go_wp2_with fail
      go_loop [10] (fun i => ∃ j : Nat, j ≤ 4 ∧ i = .int .i64 j) (fun i => 4 - (intOf i).toNat)
      case atStart => exact ⟨0, by omega, rfl⟩
      case round =>
        obtain ⟨j, hj, rfl⟩ := hrel
        by_cases hlt : j < 4
        · by_cases hjv : (j : Int) = vv
          · have hne : ((j : Int) != vv) = false := by simp [hjv]
            have hjv' := Lib.hid hjv
            clear hjv
            go_wp2
            go_round
            case rel => exact ⟨j + 1, by omega, by go_num⟩
            case measure => (simp [intOf]; try omega)
          · have hne : ((j : Int) != vv) = true := by simp [hjv]
            have hval := Lib.hid (hx3.out j (by omega) (by omega) hjv)
            clear hjv
            go_wp2_with fail
            refine (ValueAt_any X j _).mono ?_
            rw [hval.out]
            rintro e w' ⟨rfl, rfl⟩
            go_wp2_with fail
            refine (ValueAt_any st j _).mono ?_
            rintro e w' ⟨rfl, rfl⟩
            go_wp2_with fail
            go_round
            case rel => exact ⟨j + 1, by omega, by go_num⟩
            case measure => (simp [intOf]; try omega)
        · go_wp2_with fail
          refine (ValueAt_any X vv _).mono ?_
          rw [hx4.out]
          rintro e w' ⟨rfl, rfl⟩
          go_wp2_with fail
          refine (ValueAt_any st vv _).mono ?_
          rintro e w' ⟨rfl, rfl⟩
          go_wp2_with fail
          refine (WithValue_any X vv _ _).mono ?_
          rw [hx5.out]
          rintro e w' ⟨rfl, rfl⟩
          go_wp2_with fail
          go_ret
          exact ⟨rfl, hfin⟩

set_option maxRecDepth 100000 in
theorem lifted (os : Os) (started : os.Started) (H : Type) (enc : TypeId × Value → H) :
    ReturnsInHanded {} Try.checked os 4 .any (Rows.fnStmtsSpec.pre6 enc Try.prog Try.f4 Rows.fnStmtsRow.domain false) (Rows.fnStmtsSpec.post enc Try.prog Try.f4 false true false false) := by
  refine returnsInHanded_of_change (C := Try.checked) own started (by kernel_rfl) Try.func4
    (ChangeSpec.witness6 (enc := enc) (C := Try.checked) false ⟨#[], #[.slice none 0 0, .slice none 0 0], []⟩ 8 (by kernel_rfl) (by kernel_rfl) (by kernel_rfl) (by kernel_rfl)) ?_
  intro W base args ds gs before hval0 hW hcnd _
  have hval : ∀ (j : Nat) t v, Try.f4.params[j]? = some t → args[j]? = some v → Value.okWide Try.prog W .any base t v := hval0
  have hW' := hW
  obtain ⟨p, q, hA0, hV, rfl, hfz, hnd⟩ := hW
  have hA : DataW.TrodAll enc Try.prog W 0 (fun _ => true) true Try.f4.params.toList args.toList ds p := hA0
  rw [Try.params4] at hA hval
  obtain ⟨v0, vs0, d0, ds0, p0, q0, hargs, rfl, rfl, h0, r0⟩ := trodAll_cons hA
  obtain ⟨v1, vs1, d1, ds1, p1, q1, rfl, rfl, rfl, h1, r1⟩ := trodAll_cons r0
  obtain ⟨rfl, rfl, rfl⟩ := trodAll_nil r1
  obtain rfl : args = #[v0, v1] := by cases args; simp_all
  obtain ⟨rfl, rfl⟩ := trodVars_none hV
  have lt0 : ∀ x ∈ p0, x.block < W.heap.size := by
    obtain ⟨m, hm⟩ := h0
    exact DataW.trod_lt m _ _ _ hm
  have lt1 : ∀ x ∈ p1, x.block < W.heap.size := by
    obtain ⟨m, hm⟩ := h1
    exact DataW.trod_lt m _ _ _ hm
  clear hA0 hval0
  refine (walk enc W base v0 d0 p0 (hval 0 22 v0 rfl rfl) h0 lt0 v1 d1 p1 (hval 1 22 v1 rfl rfl) h1 lt1).mono fun e W' ⟨he, bel⟩ => ?_
  subst he
  exact ⟨_, rfl, _, _, _, [], _, [], hW', trodAll_mk1 (shut_bool Try.underlying4 _), (trodAll_cons_mk (Below.trod laidOut (by kernel_rfl) (of_decide_eq_true (by kernel_rfl)) h0 bel lt0) (trodAll_cons_mk (Below.trod laidOut (by kernel_rfl) (of_decide_eq_true (by kernel_rfl)) h1 bel lt1) trodAll_mk0)), rfl, bel.frame _, fun h => by cases h⟩

theorem proved : Rows.FnStmtsSaid :=
  OpenClaim.holds_of_wide 4 Try.f4 rfl rfl rfl rfl rfl rfl rfl ⟨rfl, rfl, rfl, rfl, rfl⟩ rfl rfl rfl rfl rfl (by kernel_rfl) Try.func4 (by kernel_rfl)
    (of_decide_eq_true (by kernel_rfl)) (by unfold Func.isWrapper; first | (rw [if_pos (by decide +kernel)]; kernel_rfl) | (rw [if_neg (by decide +kernel)]; exact ⟨rfl, rfl⟩))
    (fun os started H enc _ => lifted os started H enc)
end Go.Proofs.Ytodchhakbljncaa.fnStmts
