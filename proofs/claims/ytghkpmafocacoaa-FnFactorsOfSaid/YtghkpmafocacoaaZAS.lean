/- Parts of the proof: Gm. -/
import Derived.Test.YtghkpmafocacoaaZAQ
import Derived.Test.YtghkpmafocacoaaZAR
namespace Go.Proofs.Ytghkpmafocacoaa
set_option maxRecDepth 100000
set_option linter.unusedVariables false
open Go.RowKit
theorem two_sets : ∀ a b : Fin 4, a ≠ b → bor (bitN (b.val : Int)) (bitN (a.val : Int)) = bor (bitN (a.val : Int)) (bitN (b.val : Int)) ∧ bor (bitN (a.val : Int) + bitN (b.val : Int)) 0 = bor (bitN (a.val : Int)) (bitN (b.val : Int)) ∧ (over (bor (bitN (a.val : Int)) (bitN (b.val : Int)))).length = 2 := by decide +kernel
theorem two_vals : ∀ a b : Fin 4, a ≠ b → ∀ i : Fin 9, (valueAt (stOf (over (bor (bitN (a.val : Int)) (bitN (b.val : Int)))) (i.val : Int)) (a.val : Int) + valueAt (stOf (over (bor (bitN (a.val : Int)) (bitN (b.val : Int)))) (i.val : Int)) (b.val : Int)) % 3 = ((i.val : Int) / 3 + (i.val : Int) % 3) % 3 := by decide +kernel
theorem one_set : ∀ a : Fin 4, over (bitN (a.val : Int)) = [(a.val : Int)] ∧ bor 0 (bitN (a.val : Int)) = bitN (a.val : Int) ∧ bor (bitN (a.val : Int)) 0 = bitN (a.val : Int) ∧ ∀ i : Fin 3, valueAt (stOf [(a.val : Int)] (i.val : Int)) (a.val : Int) = (i.val : Int) := by decide +kernel
theorem facStmt_one {s : St} (h : s.ok = true) (hk : s.k = 2 ∨ s.k = 4) : facStmt s = ⟨[s.a], [s.u, s.v, s.x]⟩ := by
  have h8 := ok_rng (k := s.k) (a := s.a) (b := s.b) (c := s.c) (u := s.u) (v := s.v) (x := s.x) h
  obtain ⟨A, hA, _⟩ := nat_three (v := s.a) (by omega)
  obtain ⟨o1, o2, o3, o4⟩ := one_set A
  have hn : named s = bitN s.a := by
    unfold named St.reads St.sets
    rw [h]
    rcases hk with hk | hk
    · simp [hk]
      rw [hA]
      exact o2
    · simp [hk]
      rw [hA]
      exact o3
  have hf : ∀ i : Fin 3, s.fac (stOf [s.a] (i.val : Int)) = s.wgt (i.val : Int) := fun i => by
    unfold St.fac
    rw [if_pos hk, hA, o4 i]
  unfold facStmt facBy_
  rw [hn, show over (bitN s.a) = [s.a] by rw [hA]; exact o1]
  have e : 3 ^ [s.a].length = 3 := by simp
  rw [e]
  show (⟨[s.a], [s.fac (stOf [s.a] ((0 : Nat) : Int)), s.fac (stOf [s.a] ((1 : Nat) : Int)), s.fac (stOf [s.a] ((2 : Nat) : Int))]⟩ : Fac) = _
  have f0 := hf 0
  have f1 := hf 1
  have f2 := hf 2
  have g0 : s.fac (stOf [s.a] ((0 : Nat) : Int)) = s.u := f0
  have g1 : s.fac (stOf [s.a] ((1 : Nat) : Int)) = s.v := f1
  have g2 : s.fac (stOf [s.a] ((2 : Nat) : Int)) = s.x := f2
  rw [g0, g1, g2]
theorem facStmt_two {s : St} (h : s.ok = true) (hk : s.k = 3 ∨ s.k = 5) : named s = bor (bitN s.a) (bitN s.b) ∧ (over (named s)).length = 2 ∧ (0 ≤ s.a ∧ s.a ≤ 3) ∧ (0 ≤ s.b ∧ s.b ≤ 3) ∧ ∀ i : Nat, i < 9 → s.fac (stOf (over (named s)) (i : Int)) = s.wgt (((i : Int) / 3 + (i : Int) % 3) % 3) := by
  have h8 := ok_rng (k := s.k) (a := s.a) (b := s.b) (c := s.c) (u := s.u) (v := s.v) (x := s.x) h
  obtain ⟨A, hA, _⟩ := nat_three (v := s.a) (by omega)
  obtain ⟨B, hB, _⟩ := nat_three (v := s.b) (by omega)
  have hne : A ≠ B := by
    rintro rfl
    omega
  obtain ⟨o1, o2, o3⟩ := two_sets A B hne
  have hn : named s = bor (bitN s.a) (bitN s.b) := by
    unfold named St.reads St.sets
    rw [h]
    rcases hk with hk | hk
    · simp [hk]
      rw [hA, hB]
      exact o1
    · simp [hk]
      rw [hA, hB]
      exact o2
  refine ⟨hn, by rw [hn, hA, hB]; exact o3, by omega, by omega, fun i hi => ?_⟩
  unfold St.fac
  rw [if_neg (by omega), if_pos hk, hn, hA, hB]
  have := two_vals A B hne ⟨i, hi⟩
  rw [this]
set_option maxHeartbeats 2000000 in
theorem l8Stmt_any (s : St) (w : World) (hs : s.ok = true) (hk : s.k = 2 ∨ s.k = 3 ∨ s.k = 4 ∨ s.k = 5) :
    Calls Try.prog 117 #[.agg #[.int .i64 s.k, .int .i64 s.a, .int .i64 s.b, .int .i64 s.c, .int .i64 s.u, .int .i64 s.v, .int .i64 s.x]] w (Fcd w (facStmt s)) := by
  have hB0 : Below w.heap.size w (w.alloc (.cells #[.int .i64 s.k, .int .i64 s.a, .int .i64 s.b, .int .i64 s.c, .int .i64 s.u, .int .i64 s.v, .int .i64 s.x] 116)) := (Below.refl _ _).alloc (Nat.le_refl _) _
  have hbx := Lib.hid (Has.new w 116 #[.int .i64 s.k, .int .i64 s.a, .int .i64 s.b, .int .i64 s.c, .int .i64 s.u, .int .i64 s.v, .int .i64 s.x])
  have hB0h := Lib.hid hB0
  obtain ⟨i0, hi0, hi1, hi2, hi3⟩ := info_parts info_int
  clear hB0
  by_cases h1 : s.k = 2 ∨ s.k = 4
  · have hf := Lib.hid (facStmt_one hs h1)
    rw [hf.out]
    rcases h1 with h1 | h1
    · rw [h1] at hbx hB0h
      have hk2 := h1
      go_enter Try.func117, Try.ntmps117
      go_wp2_with fail
      have hz0 : (w.alloc (.cells #[.int .i64 2, .int .i64 s.a, .int .i64 s.b, .int .i64 s.c, .int .i64 s.u, .int .i64 s.v, .int .i64 s.x] 116)).heap.size = w.heap.size + 1 := by simp
      generalize w.alloc (.cells #[.int .i64 2, .int .i64 s.a, .int .i64 s.b, .int .i64 s.c, .int .i64 s.u, .int .i64 s.v, .int .i64 s.x] 116) = W0 at hB0h hz0 ⊢
      have hB := hB0h.out
      have hWW := hB.size
      rw [← hz0]
      have r1 := Has.new W0 56 #[.slice (some ⟨W0.heap.size + 1, 0, none⟩) 1 1, .slice (some ⟨W0.heap.size + 1 + 1, 0, none⟩) 3 3]
      have b1 := hB.alloc hWW (.cells #[.slice (some ⟨W0.heap.size + 1, 0, none⟩) 1 1, .slice (some ⟨W0.heap.size + 1 + 1, 0, none⟩) 3 3] 56)
      have z1 : (W0.alloc (.cells #[.slice (some ⟨W0.heap.size + 1, 0, none⟩) 1 1, .slice (some ⟨W0.heap.size + 1 + 1, 0, none⟩) 3 3] 56)).heap.size = W0.heap.size + 1 := by simp
      generalize W0.alloc (.cells #[.slice (some ⟨W0.heap.size + 1, 0, none⟩) 1 1, .slice (some ⟨W0.heap.size + 1 + 1, 0, none⟩) 3 3] 56) = W1 at r1 b1 z1 ⊢
      have r2 := r1.alloc (.cells #[.int .i64 s.a] 3)
      have n2 := Has.new W1 3 #[.int .i64 s.a]
      have b2 := b1.alloc b1.size (.cells #[.int .i64 s.a] 3)
      have z2 : (W1.alloc (.cells #[.int .i64 s.a] 3)).heap.size = W1.heap.size + 1 := by simp
      generalize W1.alloc (.cells #[.int .i64 s.a] 3) = W2 at r2 n2 b2 z2 ⊢
      have r3 := r2.alloc (.cells #[.int .i64 s.u, .int .i64 s.v, .int .i64 s.x] 3)
      have n3 := n2.alloc (.cells #[.int .i64 s.u, .int .i64 s.v, .int .i64 s.x] 3)
      have m3 := Has.new W2 3 #[.int .i64 s.u, .int .i64 s.v, .int .i64 s.x]
      have b3 := b2.alloc b2.size (.cells #[.int .i64 s.u, .int .i64 s.v, .int .i64 s.x] 3)
      generalize W2.alloc (.cells #[.int .i64 s.u, .int .i64 s.v, .int .i64 s.x] 3) = W3 at r3 n3 m3 b3 ⊢
      rw [z1] at n3
      rw [z2, z1] at m3
      have cr := r3.cell
      refine bodyPost_ret (v := .agg #[.slice (some ⟨W0.heap.size + 1, 0, none⟩) 1 1, .slice (some ⟨W0.heap.size + 1 + 1, 0, none⟩) 3 3]) (by simp [results, Try.results117, go_sem, cr]) rfl ⟨_, _, rfl, ⟨?_, ?_, ?_⟩, b3⟩
      · exact IOwn.of_has (ds := [s.a]) n3 rfl rfl (by omega) (by decide)
      · exact IOwn.of_has (ds := [s.u, s.v, s.x]) m3 rfl rfl (by omega) (by decide)
      · intro b e1 e2
        have q1 : W0.heap.size + 1 = b := by simpa [Value.ownBlock] using e1
        have q2 : W0.heap.size + 1 + 1 = b := by simpa [Value.ownBlock] using e2
        omega
    · rw [h1] at hbx hB0h
      have hk2 := h1
      go_enter Try.func117, Try.ntmps117
      go_wp2_with fail
      have hz0 : (w.alloc (.cells #[.int .i64 4, .int .i64 s.a, .int .i64 s.b, .int .i64 s.c, .int .i64 s.u, .int .i64 s.v, .int .i64 s.x] 116)).heap.size = w.heap.size + 1 := by simp
      generalize w.alloc (.cells #[.int .i64 4, .int .i64 s.a, .int .i64 s.b, .int .i64 s.c, .int .i64 s.u, .int .i64 s.v, .int .i64 s.x] 116) = W0 at hB0h hz0 ⊢
      have hB := hB0h.out
      have hWW := hB.size
      rw [← hz0]
      have r1 := Has.new W0 56 #[.slice (some ⟨W0.heap.size + 1, 0, none⟩) 1 1, .slice (some ⟨W0.heap.size + 1 + 1, 0, none⟩) 3 3]
      have b1 := hB.alloc hWW (.cells #[.slice (some ⟨W0.heap.size + 1, 0, none⟩) 1 1, .slice (some ⟨W0.heap.size + 1 + 1, 0, none⟩) 3 3] 56)
      have z1 : (W0.alloc (.cells #[.slice (some ⟨W0.heap.size + 1, 0, none⟩) 1 1, .slice (some ⟨W0.heap.size + 1 + 1, 0, none⟩) 3 3] 56)).heap.size = W0.heap.size + 1 := by simp
      generalize W0.alloc (.cells #[.slice (some ⟨W0.heap.size + 1, 0, none⟩) 1 1, .slice (some ⟨W0.heap.size + 1 + 1, 0, none⟩) 3 3] 56) = W1 at r1 b1 z1 ⊢
      have r2 := r1.alloc (.cells #[.int .i64 s.a] 3)
      have n2 := Has.new W1 3 #[.int .i64 s.a]
      have b2 := b1.alloc b1.size (.cells #[.int .i64 s.a] 3)
      have z2 : (W1.alloc (.cells #[.int .i64 s.a] 3)).heap.size = W1.heap.size + 1 := by simp
      generalize W1.alloc (.cells #[.int .i64 s.a] 3) = W2 at r2 n2 b2 z2 ⊢
      have r3 := r2.alloc (.cells #[.int .i64 s.u, .int .i64 s.v, .int .i64 s.x] 3)
      have n3 := n2.alloc (.cells #[.int .i64 s.u, .int .i64 s.v, .int .i64 s.x] 3)
      have m3 := Has.new W2 3 #[.int .i64 s.u, .int .i64 s.v, .int .i64 s.x]
      have b3 := b2.alloc b2.size (.cells #[.int .i64 s.u, .int .i64 s.v, .int .i64 s.x] 3)
      generalize W2.alloc (.cells #[.int .i64 s.u, .int .i64 s.v, .int .i64 s.x] 3) = W3 at r3 n3 m3 b3 ⊢
      rw [z1] at n3
      rw [z2, z1] at m3
      have cr := r3.cell
      refine bodyPost_ret (v := .agg #[.slice (some ⟨W0.heap.size + 1, 0, none⟩) 1 1, .slice (some ⟨W0.heap.size + 1 + 1, 0, none⟩) 3 3]) (by simp [results, Try.results117, go_sem, cr]) rfl ⟨_, _, rfl, ⟨?_, ?_, ?_⟩, b3⟩
      · exact IOwn.of_has (ds := [s.a]) n3 rfl rfl (by omega) (by decide)
      · exact IOwn.of_has (ds := [s.u, s.v, s.x]) m3 rfl rfl (by omega) (by decide)
      · intro b e1 e2
        have q1 : W0.heap.size + 1 = b := by simpa [Value.ownBlock] using e1
        have q2 : W0.heap.size + 1 + 1 = b := by simpa [Value.ownBlock] using e2
        omega
  · obtain ⟨hn, hlen, ha, hb, hfx⟩ := facStmt_two hs (by omega)
    have hq2 : (s.k == 2) = false := by simp; omega
    have hq4 : (s.k == 4) = false := by simp; omega
    have hsa := shl_in ha
    have hsb := shl_in hb
    have hor := bits_or (bitN_le s.a) (bitN_le s.b)
    have hLb := bor_bd (a := bitN s.a) (b := bitN s.b) (bitN_le s.a).2 (bitN_le s.b).2
    have ha64 : s.a ≤ 64 := by omega
    have hb64 : s.b ≤ 64 := by omega
    have ha0 : 0 ≤ s.a := ha.1
    have hb0 : 0 ≤ s.b := hb.1
    have hRes := Lib.hid (show facStmt s = facBy_ (named s) (fun st => s.fac st) from rfl)
    obtain ⟨g, hg_⟩ : ∃ g : Int → Int, (fun st => s.fac st) = g := ⟨_, rfl⟩
    have hgv := Lib.hid (fun (i : Nat) (hi : i < 9) => show g (stOf (over (named s)) (i : Int)) = s.wgt (((i : Int) / 3 + (i : Int) % 3) % 3) from by rw [← hg_]; exact hfx i hi)
    rw [hg_] at hRes
    rw [hRes.out]
    rw [← hn] at hor hLb
    have cO := Lib.hid (fun wx => l8Over_any (named s) wx hLb)
    generalize named s = L at *
    have hLh := Lib.hid hLb
    have hall := Lib.hid (facPre_all L g)
    rw [hlen] at hall
    clear hlen
    clear hk h1 hfx hg_ hn hRes hs
    go_enter Try.func117, Try.ntmps117
    go_wp2_with fail
    have hz0 : (w.alloc (.cells #[.int .i64 s.k, .int .i64 s.a, .int .i64 s.b, .int .i64 s.c, .int .i64 s.u, .int .i64 s.v, .int .i64 s.x] 116)).heap.size = w.heap.size + 1 := by simp
    generalize w.alloc (.cells #[.int .i64 s.k, .int .i64 s.a, .int .i64 s.b, .int .i64 s.c, .int .i64 s.u, .int .i64 s.v, .int .i64 s.x] 116) = W0 at hbx hB0h hz0 ⊢
    have hr0 := Has.new W0 56 #[.slice none 0 0, .slice none 0 0]
    have hal0 : Below W0.heap.size W0 _ := (Below.refl _ _).alloc (Nat.le_refl _) (.cells #[.slice none 0 0, .slice none 0 0] 56)
    have hz1 : (W0.alloc (.cells #[.slice none 0 0, .slice none 0 0] 56)).heap.size = W0.heap.size + 1 := by simp
    generalize W0.alloc (.cells #[.slice none 0 0, .slice none 0 0] 56) = W1 at hr0 hal0 hz1 ⊢
    rw [← hz0]
    have hr := Lib.hid hr0
    have hB1 := Lib.hid hal0
    have hWW := hB0h.out.size
    have hfz := Lib.hid (hbx.out.kept hB1.out)
    clear hr0 hal0 hz0
    refine wp_region_any (by kernel_rfl) ?_
    change wpAny _ _ _ _ _ _ _ (World.drew _)
    refine wpAny_last (n := 10) (I := fun listed aq wx => listed.size = 11 ∧ ∃ v3 v27 v28 v29 v30 v31 v32 v33 v34 v35 : Value, aq = { tmps := #[.agg #[.int .i64 s.k, .int .i64 s.a, .int .i64 s.b, .int .i64 s.c, .int .i64 s.u, .int .i64 s.v, .int .i64 s.x], .pointer (some ⟨w.heap.size, 0, none⟩), .pointer (some ⟨W0.heap.size, 0, none⟩), v3, undef, .pointer (some ⟨w.heap.size, 0, none⟩), .int .i64 s.k, .bool false, .bool false, .pointer (some ⟨w.heap.size, 0, none⟩), .int .i64 s.k, .bool false, .bool false, undef, undef, undef, undef, undef, undef, undef, undef, undef, undef, undef, undef, undef, undef, v27, v28, v29, v30, v31, v32, v33, v34, v35, undef, undef, undef, undef, undef, undef, undef, undef, undef, undef, undef, undef, undef, undef, undef, undef, undef, undef, undef], defers := [] } ∧ (listed.getD 0 false = true → v27 = .pointer (some ⟨w.heap.size, 1, none⟩)) ∧ (listed.getD 1 false = true → v28 = .int .i64 s.a) ∧ (listed.getD 2 false = true → v29 = .int .i64 (bitN s.a)) ∧ (listed.getD 3 false = true → v30 = .pointer (some ⟨w.heap.size, 2, none⟩)) ∧ (listed.getD 4 false = true → v31 = .int .i64 s.b) ∧ (listed.getD 5 false = true → v32 = .int .i64 (bitN s.b)) ∧ (listed.getD 6 false = true → v33 = .int .i64 L) ∧ (listed.getD 7 false = true → (∃ (D : Option Addr) (cd : Nat), v34 = .slice D (over L).length cd ∧ IOwn wx W1.heap.size (.slice D (over L).length cd) (over L))) ∧ (listed.getD 8 false = true → (∃ (D : Option Addr) (cd : Nat), v35 = .agg #[.slice D (over L).length cd, .slice none 0 0] ∧ IOwn wx W1.heap.size (.slice D (over L).length cd) (over L))) ∧ (listed.getD 9 false = true → (∃ G9, v3 = .pointer (some ⟨G9, 0, none⟩) ∧ W1.heap.size ≤ G9 ∧ Has wx G9 56 #[.slice none 0 0, .slice none 0 0])) ∧ Below W1.heap.size W1 wx) rfl (by kernel_rfl) (by kernel_rfl) ?hs ?hl _ _ _ ?st rfl (by decide) _ (by decide)
    case st =>
      refine ⟨rfl, undef, undef, undef, undef, undef, undef, undef, undef, undef, undef, rfl, ?_, ?_, ?_, ?_, ?_, ?_, ?_, ?_, ?_, ?_, (Below.refl _ _).drew⟩ <;> (intro e; exact absurd e (by decide))
    case hs =>
      rintro listed aq wx ⟨hz, v3, v27, v28, v29, v30, v31, v32, v33, v34, v35, rfl, hII⟩ i hin hi
      obtain ⟨h0, o, ho, hd⟩ := mem_ready.1 hi
      have K0 := Lib.hid hII.1
      have K1 := Lib.hid hII.2.1
      have K2 := Lib.hid hII.2.2.1
      have K3 := Lib.hid hII.2.2.2.1
      have K4 := Lib.hid hII.2.2.2.2.1
      have K5 := Lib.hid hII.2.2.2.2.2.1
      have K6 := Lib.hid hII.2.2.2.2.2.2.1
      have K7 := Lib.hid hII.2.2.2.2.2.2.2.1
      have K8 := Lib.hid hII.2.2.2.2.2.2.2.2.1
      have K9 := Lib.hid hII.2.2.2.2.2.2.2.2.2.1
      have hB : Below W1.heap.size W1 wx := hII.2.2.2.2.2.2.2.2.2.2
      have hne := Lib.hid (fun k (hk : i ≠ k) => @listed_ne listed i k hk)
      have hx := hfz.out.kept hB
      have h0f : listed.getD i false = false := by rw [Array.getD_eq_getD_getElem?, getD_false h0]; rfl
      clear hII hi h0
      rcases (by omega : i = 0 ∨ i = 1 ∨ i = 2 ∨ i = 3 ∨ i = 4 ∨ i = 5 ∨ i = 6 ∨ i = 7 ∨ i = 8 ∨ i = 9) with rfl | rfl | rfl | rfl | rfl | rfl | rfl | rfl | rfl | rfl
      · cases ho
        refine wpOp_step rfl (fun K hK => ?_)
        go_simp
        refine hK _ _ ⟨by simpa using hz, v3, .pointer (some ⟨w.heap.size, 1, none⟩), v28, v29, v30, v31, v32, v33, v34, v35, rfl, ?_⟩
        exact ⟨fun _ => rfl, fun e => K1.out (hne.out 1 (by decide) e), fun e => K2.out (hne.out 2 (by decide) e), fun e => K3.out (hne.out 3 (by decide) e), fun e => K4.out (hne.out 4 (by decide) e), fun e => K5.out (hne.out 5 (by decide) e), fun e => K6.out (hne.out 6 (by decide) e), fun e => K7.out (hne.out 7 (by decide) e), fun e => K8.out (hne.out 8 (by decide) e), fun e => K9.out (hne.out 9 (by decide) e), hB⟩
      · cases ho
        have d0 := hd ⟨0, .data⟩ (by simp) rfl
        obtain rfl := K0.out d0
        have hxc := hx.cell
        refine wpOp_step rfl (fun K hK => ?_)
        go_simp
        refine hK _ _ ⟨by simpa using hz, v3, .pointer (some ⟨w.heap.size, 1, none⟩), .int .i64 s.a, v29, v30, v31, v32, v33, v34, v35, rfl, ?_⟩
        exact ⟨fun e => K0.out (hne.out 0 (by decide) e), fun _ => rfl, fun e => K2.out (hne.out 2 (by decide) e), fun e => K3.out (hne.out 3 (by decide) e), fun e => K4.out (hne.out 4 (by decide) e), fun e => K5.out (hne.out 5 (by decide) e), fun e => K6.out (hne.out 6 (by decide) e), fun e => K7.out (hne.out 7 (by decide) e), fun e => K8.out (hne.out 8 (by decide) e), fun e => K9.out (hne.out 9 (by decide) e), hB⟩
      · cases ho
        have d1 := hd ⟨1, .data⟩ (by simp) rfl
        obtain rfl := K1.out d1
        refine wpOp_step rfl (fun K hK => ?_)
        go_simp
        refine hK _ _ ⟨by simpa using hz, v3, v27, .int .i64 s.a, .int .i64 (bitN s.a), v30, v31, v32, v33, v34, v35, rfl, ?_⟩
        exact ⟨fun e => K0.out (hne.out 0 (by decide) e), fun e => K1.out (hne.out 1 (by decide) e), fun _ => rfl, fun e => K3.out (hne.out 3 (by decide) e), fun e => K4.out (hne.out 4 (by decide) e), fun e => K5.out (hne.out 5 (by decide) e), fun e => K6.out (hne.out 6 (by decide) e), fun e => K7.out (hne.out 7 (by decide) e), fun e => K8.out (hne.out 8 (by decide) e), fun e => K9.out (hne.out 9 (by decide) e), hB⟩
      · cases ho
        refine wpOp_step rfl (fun K hK => ?_)
        go_simp
        refine hK _ _ ⟨by simpa using hz, v3, v27, v28, v29, .pointer (some ⟨w.heap.size, 2, none⟩), v31, v32, v33, v34, v35, rfl, ?_⟩
        exact ⟨fun e => K0.out (hne.out 0 (by decide) e), fun e => K1.out (hne.out 1 (by decide) e), fun e => K2.out (hne.out 2 (by decide) e), fun _ => rfl, fun e => K4.out (hne.out 4 (by decide) e), fun e => K5.out (hne.out 5 (by decide) e), fun e => K6.out (hne.out 6 (by decide) e), fun e => K7.out (hne.out 7 (by decide) e), fun e => K8.out (hne.out 8 (by decide) e), fun e => K9.out (hne.out 9 (by decide) e), hB⟩
      · cases ho
        have d3 := hd ⟨3, .data⟩ (by simp) rfl
        obtain rfl := K3.out d3
        have hxc := hx.cell
        refine wpOp_step rfl (fun K hK => ?_)
        go_simp
        refine hK _ _ ⟨by simpa using hz, v3, v27, v28, v29, .pointer (some ⟨w.heap.size, 2, none⟩), .int .i64 s.b, v32, v33, v34, v35, rfl, ?_⟩
        exact ⟨fun e => K0.out (hne.out 0 (by decide) e), fun e => K1.out (hne.out 1 (by decide) e), fun e => K2.out (hne.out 2 (by decide) e), fun e => K3.out (hne.out 3 (by decide) e), fun _ => rfl, fun e => K5.out (hne.out 5 (by decide) e), fun e => K6.out (hne.out 6 (by decide) e), fun e => K7.out (hne.out 7 (by decide) e), fun e => K8.out (hne.out 8 (by decide) e), fun e => K9.out (hne.out 9 (by decide) e), hB⟩
      · cases ho
        have d4 := hd ⟨4, .data⟩ (by simp) rfl
        obtain rfl := K4.out d4
        refine wpOp_step rfl (fun K hK => ?_)
        go_simp
        refine hK _ _ ⟨by simpa using hz, v3, v27, v28, v29, v30, .int .i64 s.b, .int .i64 (bitN s.b), v33, v34, v35, rfl, ?_⟩
        exact ⟨fun e => K0.out (hne.out 0 (by decide) e), fun e => K1.out (hne.out 1 (by decide) e), fun e => K2.out (hne.out 2 (by decide) e), fun e => K3.out (hne.out 3 (by decide) e), fun e => K4.out (hne.out 4 (by decide) e), fun _ => rfl, fun e => K6.out (hne.out 6 (by decide) e), fun e => K7.out (hne.out 7 (by decide) e), fun e => K8.out (hne.out 8 (by decide) e), fun e => K9.out (hne.out 9 (by decide) e), hB⟩
      · cases ho
        have d2 := hd ⟨2, .data⟩ (by simp) rfl
        have d5 := hd ⟨5, .data⟩ (by simp) rfl
        obtain rfl := K2.out d2
        obtain rfl := K5.out d5
        refine wpOp_step rfl (fun K hK => ?_)
        go_simp
        refine hK _ _ ⟨by simpa using hz, v3, v27, v28, .int .i64 (bitN s.a), v30, v31, .int .i64 (bitN s.b), .int .i64 L, v34, v35, rfl, ?_⟩
        exact ⟨fun e => K0.out (hne.out 0 (by decide) e), fun e => K1.out (hne.out 1 (by decide) e), fun e => K2.out (hne.out 2 (by decide) e), fun e => K3.out (hne.out 3 (by decide) e), fun e => K4.out (hne.out 4 (by decide) e), fun e => K5.out (hne.out 5 (by decide) e), fun _ => rfl, fun e => K7.out (hne.out 7 (by decide) e), fun e => K8.out (hne.out 8 (by decide) e), fun e => K9.out (hne.out 9 (by decide) e), hB⟩
      · cases ho
        have d6 := hd ⟨6, .data⟩ (by simp) rfl
        obtain rfl := K6.out d6
        refine wpOp_step rfl (fun K hK => ?_)
        go_simp
        go_at_call 88
        refine (cO.out _).mono ?_
        rintro e w3 ⟨u3, rfl, hD, hb3⟩
        obtain ⟨D, cd, rfl, _, _⟩ := hD.form
        refine hK _ _ ⟨by simpa using hz, v3, v27, v28, v29, v30, v31, v32, .int .i64 L, .slice D _ cd, v35, rfl, ?_⟩
        exact ⟨fun e => K0.out (hne.out 0 (by decide) e), fun e => K1.out (hne.out 1 (by decide) e), fun e => K2.out (hne.out 2 (by decide) e), fun e => K3.out (hne.out 3 (by decide) e), fun e => K4.out (hne.out 4 (by decide) e), fun e => K5.out (hne.out 5 (by decide) e), fun e => K6.out (hne.out 6 (by decide) e), fun _ => ⟨_, _, rfl, owns_le hD hB.size⟩, fun e => (by obtain ⟨y1, y2, y3, y4⟩ := K8.out (hne.out 8 (by decide) e); exact ⟨y1, y2, y3, y4.below hb3⟩), fun e => (by obtain ⟨G9, y1, y2, y3⟩ := K9.out (hne.out 9 (by decide) e); exact ⟨G9, y1, y2, y3.kept hb3⟩), hB.trans (hb3.mono hB.size)⟩
      · cases ho
        have d7 := hd ⟨7, .data⟩ (by simp) rfl
        obtain ⟨D0, cd0, rfl, hD0⟩ := K7.out d7
        refine wpOp_step rfl (fun K hK => ?_)
        go_simp
        refine hK _ _ ⟨by simpa using hz, v3, v27, v28, v29, v30, v31, v32, v33, .slice D0 (over L).length cd0, .agg #[.slice D0 (over L).length cd0, .slice none 0 0], rfl, ?_⟩
        exact ⟨fun e => K0.out (hne.out 0 (by decide) e), fun e => K1.out (hne.out 1 (by decide) e), fun e => K2.out (hne.out 2 (by decide) e), fun e => K3.out (hne.out 3 (by decide) e), fun e => K4.out (hne.out 4 (by decide) e), fun e => K5.out (hne.out 5 (by decide) e), fun e => K6.out (hne.out 6 (by decide) e), fun e => K7.out (hne.out 7 (by decide) e), fun _ => ⟨_, _, rfl, hD0⟩, fun e => K9.out (hne.out 9 (by decide) e), hB⟩
      · cases ho
        refine wpOp_step rfl (fun K hK => ?_)
        go_simp
        refine hK _ _ ⟨by simpa using hz, .pointer (some ⟨wx.heap.size, 0, none⟩), v27, v28, v29, v30, v31, v32, v33, v34, v35, rfl, ?_⟩
        exact ⟨fun e => K0.out (hne.out 0 (by decide) e), fun e => K1.out (hne.out 1 (by decide) e), fun e => K2.out (hne.out 2 (by decide) e), fun e => K3.out (hne.out 3 (by decide) e), fun e => K4.out (hne.out 4 (by decide) e), fun e => K5.out (hne.out 5 (by decide) e), fun e => K6.out (hne.out 6 (by decide) e), fun e => (by obtain ⟨y1, y2, y3, y4⟩ := K7.out (hne.out 7 (by decide) e); exact ⟨y1, y2, y3, y4.below ((Below.refl _ _).alloc (Nat.le_refl _) _)⟩), fun e => (by obtain ⟨y1, y2, y3, y4⟩ := K8.out (hne.out 8 (by decide) e); exact ⟨y1, y2, y3, y4.below ((Below.refl _ _).alloc (Nat.le_refl _) _)⟩), fun _ => ⟨_, rfl, hB.size, Has.new _ _ _⟩, hB.alloc hB.size _⟩
    case hl =>
      rintro listed aq wx ⟨hz, v3, v27, v28, v29, v30, v31, v32, v33, v34, v35, rfl, hII⟩ hall
      have K0 := Lib.hid hII.1
      have K1 := Lib.hid hII.2.1
      have K2 := Lib.hid hII.2.2.1
      have K3 := Lib.hid hII.2.2.2.1
      have K4 := Lib.hid hII.2.2.2.2.1
      have K5 := Lib.hid hII.2.2.2.2.2.1
      have K6 := Lib.hid hII.2.2.2.2.2.2.1
      have K7 := Lib.hid hII.2.2.2.2.2.2.2.1
      have K8 := Lib.hid hII.2.2.2.2.2.2.2.2.1
      have K9 := Lib.hid hII.2.2.2.2.2.2.2.2.2.1
      have hB : Below W1.heap.size W1 wx := hII.2.2.2.2.2.2.2.2.2.2
      have hx := hfz.out.kept hB
      clear hII
      obtain rfl := K0.out (hall 0 (by decide))
      obtain rfl := K1.out (hall 1 (by decide))
      obtain rfl := K2.out (hall 2 (by decide))
      obtain rfl := K3.out (hall 3 (by decide))
      obtain rfl := K4.out (hall 4 (by decide))
      obtain rfl := K5.out (hall 5 (by decide))
      obtain rfl := K6.out (hall 6 (by decide))
      obtain ⟨D0, cd0, rfl, hD0⟩ := K7.out (hall 7 (by decide))
      obtain ⟨D, cd, rfl, hD⟩ := K8.out (hall 8 (by decide))
      obtain ⟨G9, rfl, hG0, hG⟩ := K9.out (hall 9 (by decide))
      clear hall K0 K1 K2 K3 K4 K5 K6 K7 K8 K9
      have hgc := hG.cell
      have hgf := hG.frozen
      refine wpOp_step rfl (fun K0 hK0 => ?_)
      go_simp
      refine hK0 _ _ ?_
      clear hK0
      have hN1 := Lib.hid (show FacN W0 ((wx.setCell ⟨G9, 0, none⟩ (.slice D (over L).length cd)).setCell ⟨G9, 1, none⟩ (.slice none 0 0)) G9 (.slice D (over L).length cd) (.slice none 0 0) (over L) [] from by
        have hk := ((KeptBut.refl wx (fun i => i = G9)).put (p := ⟨G9, 0, none⟩) (fun _ => rfl) (.slice D (over L).length cd)).put (p := ⟨G9, 1, none⟩) (fun _ => rfl) (.slice none 0 0)
        refine ⟨IOwn.nil _ _, owns_le (hD.but hk (fun k e1 e2 => iown_ne hD hG (by decide) k e1 e2)) hB1.out.size, (hG.put 0 (.slice D (over L).length cd)).put 1 (.slice none 0 0), (hr.out.kept hB).but hk (fun e => by omega), ?_⟩
        have h9 := hB1.out.trans (hB.mono hB1.out.size)
        have h8 : W0.heap.size ≤ G9 := by omega
        exact (h9.setCell (p := ⟨G9, 0, none⟩) h8 _).setCell (p := ⟨G9, 1, none⟩) h8 _)
      have hd1 := Lib.hid (show ∀ b, (Value.slice D (over L).length cd).ownBlock = some b → (Value.slice none 0 0).ownBlock ≠ some b from fun b _ e => by cases e)
      have hG1 : W0.heap.size < G9 := by omega
      clear hx hgc hgf hD hG
      generalize (wx.setCell ⟨G9, 0, none⟩ (.slice D (over L).length cd)).setCell ⟨G9, 1, none⟩ (.slice none 0 0) = W2 at hN1 ⊢
      go_wp2_with fail
      clear hB hB1 hfz
      go_loopg [4] 9 (fun gn vv wr => ∃ (k : Nat) (v2 : Value), k ≤ 9 ∧ gn = 9 - k ∧ vv = .int .i64 k ∧ FacN W0 wr G9 (.slice D (over L).length cd) v2 (over L) (facPre L g k) ∧ (∀ b, (Value.slice D (over L).length cd).ownBlock = some b → v2.ownBlock ≠ some b))
      case atStart => exact ⟨0, _, Nat.zero_le _, rfl, rfl, hN1.out, hd1.out⟩
      case round =>
        obtain ⟨k, v2, hk, hgn, rfl, hN, hd⟩ := hrel
        have hgk : gk = 9 - k := hgn
        have hpl := facPre_len L g k
        obtain ⟨E2, e2, rfl, hE1, hE2⟩ := hN.1.form
        rw [hpl] at hN hd hE1
        have hNh := Lib.hid hN
        have hdh := Lib.hid hd
        clear hgn hN hd
        by_cases hlt : k < 9
        · have hk0 : (0 : Int) ≤ (k : Int) := by omega
          have hk1 : (k : Int) < 9 := by omega
          have hnx := Lib.hid (facPre_succ L g k)
          rw [hgv.out k hlt] at hnx
          have h3d : (k : Int).tdiv 3 = (k : Int) / 3 := Int.tdiv_eq_ediv_of_nonneg hk0
          have h3m : (k : Int).tmod 3 = (k : Int) % 3 := Int.tmod_eq_emod_of_nonneg hk0
          have h3s : ((k : Int) / 3 + (k : Int) % 3).tmod 3 = ((k : Int) / 3 + (k : Int) % 3) % 3 := Int.tmod_eq_emod_of_nonneg (by omega)
          have q1b : 0 ≤ (k : Int) / 3 ∧ (k : Int) / 3 ≤ 2 := by omega
          have q2b : 0 ≤ (k : Int) % 3 ∧ (k : Int) % 3 ≤ 2 := by omega
          have q3b : 0 ≤ ((k : Int) / 3 + (k : Int) % 3) % 3 ∧ ((k : Int) / 3 + (k : Int) % 3) % 3 ≤ 2 := by omega
          generalize ((k : Int) / 3 + (k : Int) % 3) % 3 = q3 at *
          generalize (k : Int) / 3 = q1 at *
          generalize (k : Int) % 3 = q2 at *
          obtain ⟨z, rfl, hz2⟩ : ∃ z : Nat, q3 = (z : Int) ∧ z ≤ 2 := ⟨q3.toNat, by omega, by omega⟩
          have hyz : #[Value.int .i64 s.k, .int .i64 s.a, .int .i64 s.b, .int .i64 s.c, .int .i64 s.u, .int .i64 s.v, .int .i64 s.x][4 + z]? = some (.int .i64 (s.wgt (z : Int))) := by
            obtain rfl | rfl | rfl : z = 0 ∨ z = 1 ∨ z = 2 := by omega
            all_goals rfl
          generalize s.wgt (z : Int) = y at hyz hnx
          have hz0' : (0 : Int) ≤ (z : Int) := by omega
          have hz3 : (z : Int) < 3 := by omega
          have hwq : IntKind.i64.wrap q1 = q1 := by rw [IntKind.wrap_i64]; omega
          have hw12 : IntKind.i64.wrap (q1 + q2) = q1 + q2 := by rw [IntKind.wrap_i64]; omega
          go_wp2_with fail
          refine wp_region_any (by kernel_rfl) ?_
          change wpAny _ _ _ _ _ _ _ (World.drew _)
          refine wpAny_tail (n := 12) (c := 2) (I := fun listed aq wx => listed.size = 15 ∧ ∃ v40 v41 v42 v43 v44 v45 v46 v47 v48 v49 v50 v51 : Value, aq = { tmps := #[.agg #[.int .i64 s.k, .int .i64 s.a, .int .i64 s.b, .int .i64 s.c, .int .i64 s.u, .int .i64 s.v, .int .i64 s.x], .pointer (some ⟨w.heap.size, 0, none⟩), .pointer (some ⟨W0.heap.size, 0, none⟩), .pointer (some ⟨G9, 0, none⟩), .int .i64 ↑k, .pointer (some ⟨w.heap.size, 0, none⟩), .int .i64 s.k, .bool false, .bool false, .pointer (some ⟨w.heap.size, 0, none⟩), .int .i64 s.k, .bool false, .bool false, undef, undef, undef, undef, undef, undef, undef, undef, undef, undef, undef, undef, undef, undef, .pointer (some ⟨w.heap.size, 1, none⟩), .int .i64 s.a, .int .i64 (bitN s.a), .pointer (some ⟨w.heap.size, 2, none⟩), .int .i64 s.b, .int .i64 (bitN s.b), .int .i64 L, .slice D0 (over L).length cd0, .agg #[.slice D (over L).length cd, .slice none 0 0], .int .i64 ↑k, .bool true, u38, u39, v40, v41, v42, v43, v44, v45, v46, v47, v48, v49, v50, v51, u52, u53, undef], defers := [] } ∧ (listed.getD 0 false = true → v40 = .pointer (some ⟨G9, 1, none⟩)) ∧ (listed.getD 1 false = true → v41 = .slice E2 k e2) ∧ (listed.getD 2 false = true → v42 = .int .i64 ↑k) ∧ (listed.getD 3 false = true → v43 = .int .i64 q1) ∧ (listed.getD 4 false = true → v44 = .int .i64 ↑k) ∧ (listed.getD 5 false = true → v45 = .int .i64 q2) ∧ (listed.getD 6 false = true → v46 = .int .i64 (q1 + q2)) ∧ (listed.getD 7 false = true → v47 = .int .i64 (z : Int)) ∧ (listed.getD 8 false = true → v48 = .pointer (some ⟨w.heap.size, 4, none⟩)) ∧ (listed.getD 9 false = true → v49 = .pointer (some ⟨w.heap.size, 4 + z, none⟩)) ∧ (listed.getD 10 false = true → v50 = .int .i64 y) ∧ (listed.getD 11 false = true → (∃ g9, v51 = .slice (some ⟨g9, 0, none⟩) 1 1 ∧ Has wx g9 3 #[.int .i64 y])) ∧ Below wr.heap.size wr wx) rfl (by kernel_rfl) (by kernel_rfl) (by kernel_rfl) ?hs ?hl _ _ _ ?st rfl (by decide) _ (by decide)
          case st =>
            refine ⟨rfl, u40, u41, u42, u43, u44, u45, u46, u47, u48, u49, u50, u51, rfl, ?_, ?_, ?_, ?_, ?_, ?_, ?_, ?_, ?_, ?_, ?_, ?_, (Below.refl _ _).drew⟩ <;> (intro e; exact absurd e (by decide))
          case hs =>
            rintro listed aq wx ⟨hz, v40, v41, v42, v43, v44, v45, v46, v47, v48, v49, v50, v51, rfl, hII⟩ i hin hi
            obtain ⟨h0, o, ho, hd⟩ := mem_ready.1 hi
            have K0 := Lib.hid hII.1
            have K1 := Lib.hid hII.2.1
            have K2 := Lib.hid hII.2.2.1
            have K3 := Lib.hid hII.2.2.2.1
            have K4 := Lib.hid hII.2.2.2.2.1
            have K5 := Lib.hid hII.2.2.2.2.2.1
            have K6 := Lib.hid hII.2.2.2.2.2.2.1
            have K7 := Lib.hid hII.2.2.2.2.2.2.2.1
            have K8 := Lib.hid hII.2.2.2.2.2.2.2.2.1
            have K9 := Lib.hid hII.2.2.2.2.2.2.2.2.2.1
            have K10 := Lib.hid hII.2.2.2.2.2.2.2.2.2.2.1
            have K11 := Lib.hid hII.2.2.2.2.2.2.2.2.2.2.2.1
            have hB : Below wr.heap.size wr wx := hII.2.2.2.2.2.2.2.2.2.2.2.2
            have hne := Lib.hid (fun k (hk : i ≠ k) => @listed_ne listed i k hk)
            have hNx := hNh.out.below hB
            have hx := hbx.out.kept hNx.2.2.2.2
            have h0f : listed.getD i false = false := by rw [Array.getD_eq_getD_getElem?, getD_false h0]; rfl
            clear hII hi h0
            rcases (by omega : i = 0 ∨ i = 1 ∨ i = 2 ∨ i = 3 ∨ i = 4 ∨ i = 5 ∨ i = 6 ∨ i = 7 ∨ i = 8 ∨ i = 9 ∨ i = 10 ∨ i = 11) with rfl | rfl | rfl | rfl | rfl | rfl | rfl | rfl | rfl | rfl | rfl | rfl
            · cases ho
              refine wpOp_step rfl (fun K hK => ?_)
              go_simp
              refine hK _ _ ⟨by simpa using hz, .pointer (some ⟨G9, 1, none⟩), v41, v42, v43, v44, v45, v46, v47, v48, v49, v50, v51, rfl, ?_⟩
              exact ⟨fun _ => rfl, fun e => K1.out (hne.out 1 (by decide) e), fun e => K2.out (hne.out 2 (by decide) e), fun e => K3.out (hne.out 3 (by decide) e), fun e => K4.out (hne.out 4 (by decide) e), fun e => K5.out (hne.out 5 (by decide) e), fun e => K6.out (hne.out 6 (by decide) e), fun e => K7.out (hne.out 7 (by decide) e), fun e => K8.out (hne.out 8 (by decide) e), fun e => K9.out (hne.out 9 (by decide) e), fun e => K10.out (hne.out 10 (by decide) e), fun e => K11.out (hne.out 11 (by decide) e), hB⟩
            · cases ho
              have d0 := hd ⟨0, .data⟩ (by simp) rfl
              obtain rfl := K0.out d0
              have hgc := hNx.2.2.1.cell
              refine wpOp_step rfl (fun K hK => ?_)
              go_simp
              refine hK _ _ ⟨by simpa using hz, .pointer (some ⟨G9, 1, none⟩), .slice E2 k e2, v42, v43, v44, v45, v46, v47, v48, v49, v50, v51, rfl, ?_⟩
              exact ⟨fun e => K0.out (hne.out 0 (by decide) e), fun _ => rfl, fun e => K2.out (hne.out 2 (by decide) e), fun e => K3.out (hne.out 3 (by decide) e), fun e => K4.out (hne.out 4 (by decide) e), fun e => K5.out (hne.out 5 (by decide) e), fun e => K6.out (hne.out 6 (by decide) e), fun e => K7.out (hne.out 7 (by decide) e), fun e => K8.out (hne.out 8 (by decide) e), fun e => K9.out (hne.out 9 (by decide) e), fun e => K10.out (hne.out 10 (by decide) e), fun e => K11.out (hne.out 11 (by decide) e), hB⟩
            · cases ho
              refine wpOp_step rfl (fun K hK => ?_)
              go_simp
              refine hK _ _ ⟨by simpa using hz, v40, v41, .int .i64 ↑k, v43, v44, v45, v46, v47, v48, v49, v50, v51, rfl, ?_⟩
              exact ⟨fun e => K0.out (hne.out 0 (by decide) e), fun e => K1.out (hne.out 1 (by decide) e), fun _ => rfl, fun e => K3.out (hne.out 3 (by decide) e), fun e => K4.out (hne.out 4 (by decide) e), fun e => K5.out (hne.out 5 (by decide) e), fun e => K6.out (hne.out 6 (by decide) e), fun e => K7.out (hne.out 7 (by decide) e), fun e => K8.out (hne.out 8 (by decide) e), fun e => K9.out (hne.out 9 (by decide) e), fun e => K10.out (hne.out 10 (by decide) e), fun e => K11.out (hne.out 11 (by decide) e), hB⟩
            · cases ho
              have d2 := hd ⟨2, .data⟩ (by simp) rfl
              obtain rfl := K2.out d2
              refine wpOp_step rfl (fun K hK => ?_)
              go_simp
              refine hK _ _ ⟨by simpa using hz, v40, v41, .int .i64 ↑k, .int .i64 q1, v44, v45, v46, v47, v48, v49, v50, v51, rfl, ?_⟩
              exact ⟨fun e => K0.out (hne.out 0 (by decide) e), fun e => K1.out (hne.out 1 (by decide) e), fun e => K2.out (hne.out 2 (by decide) e), fun _ => rfl, fun e => K4.out (hne.out 4 (by decide) e), fun e => K5.out (hne.out 5 (by decide) e), fun e => K6.out (hne.out 6 (by decide) e), fun e => K7.out (hne.out 7 (by decide) e), fun e => K8.out (hne.out 8 (by decide) e), fun e => K9.out (hne.out 9 (by decide) e), fun e => K10.out (hne.out 10 (by decide) e), fun e => K11.out (hne.out 11 (by decide) e), hB⟩
            · cases ho
              refine wpOp_step rfl (fun K hK => ?_)
              go_simp
              refine hK _ _ ⟨by simpa using hz, v40, v41, v42, v43, .int .i64 ↑k, v45, v46, v47, v48, v49, v50, v51, rfl, ?_⟩
              exact ⟨fun e => K0.out (hne.out 0 (by decide) e), fun e => K1.out (hne.out 1 (by decide) e), fun e => K2.out (hne.out 2 (by decide) e), fun e => K3.out (hne.out 3 (by decide) e), fun _ => rfl, fun e => K5.out (hne.out 5 (by decide) e), fun e => K6.out (hne.out 6 (by decide) e), fun e => K7.out (hne.out 7 (by decide) e), fun e => K8.out (hne.out 8 (by decide) e), fun e => K9.out (hne.out 9 (by decide) e), fun e => K10.out (hne.out 10 (by decide) e), fun e => K11.out (hne.out 11 (by decide) e), hB⟩
            · cases ho
              have d4 := hd ⟨4, .data⟩ (by simp) rfl
              obtain rfl := K4.out d4
              refine wpOp_step rfl (fun K hK => ?_)
              go_simp
              refine hK _ _ ⟨by simpa using hz, v40, v41, v42, v43, .int .i64 ↑k, .int .i64 q2, v46, v47, v48, v49, v50, v51, rfl, ?_⟩
              exact ⟨fun e => K0.out (hne.out 0 (by decide) e), fun e => K1.out (hne.out 1 (by decide) e), fun e => K2.out (hne.out 2 (by decide) e), fun e => K3.out (hne.out 3 (by decide) e), fun e => K4.out (hne.out 4 (by decide) e), fun _ => rfl, fun e => K6.out (hne.out 6 (by decide) e), fun e => K7.out (hne.out 7 (by decide) e), fun e => K8.out (hne.out 8 (by decide) e), fun e => K9.out (hne.out 9 (by decide) e), fun e => K10.out (hne.out 10 (by decide) e), fun e => K11.out (hne.out 11 (by decide) e), hB⟩
            · cases ho
              have d3 := hd ⟨3, .data⟩ (by simp) rfl
              have d5 := hd ⟨5, .data⟩ (by simp) rfl
              obtain rfl := K3.out d3
              obtain rfl := K5.out d5
              refine wpOp_step rfl (fun K hK => ?_)
              go_simp
              refine hK _ _ ⟨by simpa using hz, v40, v41, v42, .int .i64 q1, v44, .int .i64 q2, .int .i64 (q1 + q2), v47, v48, v49, v50, v51, rfl, ?_⟩
              exact ⟨fun e => K0.out (hne.out 0 (by decide) e), fun e => K1.out (hne.out 1 (by decide) e), fun e => K2.out (hne.out 2 (by decide) e), fun e => K3.out (hne.out 3 (by decide) e), fun e => K4.out (hne.out 4 (by decide) e), fun e => K5.out (hne.out 5 (by decide) e), fun _ => rfl, fun e => K7.out (hne.out 7 (by decide) e), fun e => K8.out (hne.out 8 (by decide) e), fun e => K9.out (hne.out 9 (by decide) e), fun e => K10.out (hne.out 10 (by decide) e), fun e => K11.out (hne.out 11 (by decide) e), hB⟩
            · cases ho
              have d6 := hd ⟨6, .data⟩ (by simp) rfl
              obtain rfl := K6.out d6
              refine wpOp_step rfl (fun K hK => ?_)
              go_simp
              refine hK _ _ ⟨by simpa using hz, v40, v41, v42, v43, v44, v45, .int .i64 (q1 + q2), .int .i64 (z : Int), v48, v49, v50, v51, rfl, ?_⟩
              exact ⟨fun e => K0.out (hne.out 0 (by decide) e), fun e => K1.out (hne.out 1 (by decide) e), fun e => K2.out (hne.out 2 (by decide) e), fun e => K3.out (hne.out 3 (by decide) e), fun e => K4.out (hne.out 4 (by decide) e), fun e => K5.out (hne.out 5 (by decide) e), fun e => K6.out (hne.out 6 (by decide) e), fun _ => rfl, fun e => K8.out (hne.out 8 (by decide) e), fun e => K9.out (hne.out 9 (by decide) e), fun e => K10.out (hne.out 10 (by decide) e), fun e => K11.out (hne.out 11 (by decide) e), hB⟩
            · cases ho
              refine wpOp_step rfl (fun K hK => ?_)
              go_simp
              refine hK _ _ ⟨by simpa using hz, v40, v41, v42, v43, v44, v45, v46, v47, .pointer (some ⟨w.heap.size, 4, none⟩), v49, v50, v51, rfl, ?_⟩
              exact ⟨fun e => K0.out (hne.out 0 (by decide) e), fun e => K1.out (hne.out 1 (by decide) e), fun e => K2.out (hne.out 2 (by decide) e), fun e => K3.out (hne.out 3 (by decide) e), fun e => K4.out (hne.out 4 (by decide) e), fun e => K5.out (hne.out 5 (by decide) e), fun e => K6.out (hne.out 6 (by decide) e), fun e => K7.out (hne.out 7 (by decide) e), fun _ => rfl, fun e => K9.out (hne.out 9 (by decide) e), fun e => K10.out (hne.out 10 (by decide) e), fun e => K11.out (hne.out 11 (by decide) e), hB⟩
            · cases ho
              have d8 := hd ⟨8, .data⟩ (by simp) rfl
              have d7 := hd ⟨7, .data⟩ (by simp) rfl
              obtain rfl := K8.out d8
              obtain rfl := K7.out d7
              refine wpOp_step rfl (fun K hK => ?_)
              go_simp
              refine hK _ _ ⟨by simpa using hz, v40, v41, v42, v43, v44, v45, v46, .int .i64 (z : Int), .pointer (some ⟨w.heap.size, 4, none⟩), .pointer (some ⟨w.heap.size, 4 + z, none⟩), v50, v51, rfl, ?_⟩
              exact ⟨fun e => K0.out (hne.out 0 (by decide) e), fun e => K1.out (hne.out 1 (by decide) e), fun e => K2.out (hne.out 2 (by decide) e), fun e => K3.out (hne.out 3 (by decide) e), fun e => K4.out (hne.out 4 (by decide) e), fun e => K5.out (hne.out 5 (by decide) e), fun e => K6.out (hne.out 6 (by decide) e), fun e => K7.out (hne.out 7 (by decide) e), fun e => K8.out (hne.out 8 (by decide) e), fun _ => rfl, fun e => K10.out (hne.out 10 (by decide) e), fun e => K11.out (hne.out 11 (by decide) e), hB⟩
            · cases ho
              have d9 := hd ⟨9, .data⟩ (by simp) rfl
              obtain rfl := K9.out d9
              have hyc := (hx.cell (4 + z)).trans hyz
              refine wpOp_step rfl (fun K hK => ?_)
              go_simp
              refine hK _ _ ⟨by simpa using hz, v40, v41, v42, v43, v44, v45, v46, v47, v48, .pointer (some ⟨w.heap.size, 4 + z, none⟩), .int .i64 y, v51, rfl, ?_⟩
              exact ⟨fun e => K0.out (hne.out 0 (by decide) e), fun e => K1.out (hne.out 1 (by decide) e), fun e => K2.out (hne.out 2 (by decide) e), fun e => K3.out (hne.out 3 (by decide) e), fun e => K4.out (hne.out 4 (by decide) e), fun e => K5.out (hne.out 5 (by decide) e), fun e => K6.out (hne.out 6 (by decide) e), fun e => K7.out (hne.out 7 (by decide) e), fun e => K8.out (hne.out 8 (by decide) e), fun e => K9.out (hne.out 9 (by decide) e), fun _ => rfl, fun e => K11.out (hne.out 11 (by decide) e), hB⟩
            · cases ho
              have d10 := hd ⟨10, .data⟩ (by simp) rfl
              obtain rfl := K10.out d10
              refine wpOp_step rfl (fun K hK => ?_)
              go_simp
              refine hK _ _ ⟨by simpa using hz, v40, v41, v42, v43, v44, v45, v46, v47, v48, v49, .int .i64 y, .slice (some ⟨wx.heap.size, 0, none⟩) 1 1, rfl, ?_⟩
              exact ⟨fun e => K0.out (hne.out 0 (by decide) e), fun e => K1.out (hne.out 1 (by decide) e), fun e => K2.out (hne.out 2 (by decide) e), fun e => K3.out (hne.out 3 (by decide) e), fun e => K4.out (hne.out 4 (by decide) e), fun e => K5.out (hne.out 5 (by decide) e), fun e => K6.out (hne.out 6 (by decide) e), fun e => K7.out (hne.out 7 (by decide) e), fun e => K8.out (hne.out 8 (by decide) e), fun e => K9.out (hne.out 9 (by decide) e), fun e => K10.out (hne.out 10 (by decide) e), fun _ => ⟨_, rfl, Has.new _ _ _⟩, hB.alloc hB.size _⟩
          case hl =>
            rintro listed aq wx ⟨hz, v40, v41, v42, v43, v44, v45, v46, v47, v48, v49, v50, v51, rfl, hII⟩ hall
            have K0 := Lib.hid hII.1
            have K1 := Lib.hid hII.2.1
            have K2 := Lib.hid hII.2.2.1
            have K3 := Lib.hid hII.2.2.2.1
            have K4 := Lib.hid hII.2.2.2.2.1
            have K5 := Lib.hid hII.2.2.2.2.2.1
            have K6 := Lib.hid hII.2.2.2.2.2.2.1
            have K7 := Lib.hid hII.2.2.2.2.2.2.2.1
            have K8 := Lib.hid hII.2.2.2.2.2.2.2.2.1
            have K9 := Lib.hid hII.2.2.2.2.2.2.2.2.2.1
            have K10 := Lib.hid hII.2.2.2.2.2.2.2.2.2.2.1
            have K11 := Lib.hid hII.2.2.2.2.2.2.2.2.2.2.2.1
            have hB : Below wr.heap.size wr wx := hII.2.2.2.2.2.2.2.2.2.2.2.2
            have hNx := hNh.out.below hB
            have hx := hbx.out.kept hNx.2.2.2.2
            clear hII
            obtain rfl := K0.out (hall 0 (by decide))
            obtain rfl := K1.out (hall 1 (by decide))
            obtain rfl := K2.out (hall 2 (by decide))
            obtain rfl := K3.out (hall 3 (by decide))
            obtain rfl := K4.out (hall 4 (by decide))
            obtain rfl := K5.out (hall 5 (by decide))
            obtain rfl := K6.out (hall 6 (by decide))
            obtain rfl := K7.out (hall 7 (by decide))
            obtain rfl := K8.out (hall 8 (by decide))
            obtain rfl := K9.out (hall 9 (by decide))
            obtain rfl := K10.out (hall 10 (by decide))
            obtain ⟨g9, rfl, hg9⟩ := K11.out (hall 11 (by decide))
            clear hall K0 K1 K2 K3 K4 K5 K6 K7 K8 K9 K10 K11
            have hO6 : wx.ownsRow W0.heap.size 3 1 (.slice E2 k e2) k (ints (facPre L g k)) := by have h1 := hNx.1; unfold IOwn at h1; rwa [hpl] at h1
            unfold wpSeq
            refine wpOp_step rfl (fun K0 hK0 => ?_)
            refine step_append_lies _ rfl (.tmp 41) (.tmp 51) 31 rfl W0.heap.size 3 i0 _ 1 8 Try.underlying31 hi0 hi1 hi2 hi3 rfl (by decide) (.slice E2 k e2) k (ints (facPre L g k)) (by simp [Act.eval]) hO6 ⟨g9, 0, none⟩ 1 1 [.int .i64 y] (by simp [Act.eval]) rfl (by exact World.news_of_block hg9) (by simp [Value.oneCell']) (by omega) (by unfold maxLen; omega) (by omega) hNx.2.2.2.2.size wx.heap.size rfl ?_
            intro gr cr2 w6 hown6 hgrow6 hat6 hlt6
            refine hK0 _ _ ?_
            clear hK0
            unfold wpSeq
            refine wpOp_step rfl (fun K1 hK1 => ?_)
            go_simp
            refine hK1 _ _ ?_
            clear hK1
            have hG6 := hNx.2.2.1.but (grown_but_ hgrow6) (fun e => iown_ne hNx.1 hNx.2.2.1 (by decide) _ e rfl)
            have hgc := hG6.cell
            have hgf := hG6.frozen
            unfold wpSeq
            refine wpOp_step rfl (fun K2 hK2 => ?_)
            go_simp
            refine hK2 _ _ ?_
            clear hK2
            unfold wpSeq
            have hP := Lib.hid (hNx.grow (x := y) hpl hG1 hdh.out hown6 hgrow6 hat6)
            rw [← hnx.out] at hP
            clear hgc hgf hG6 hO6 hNx hx hown6 hgrow6 hat6 hg9
            go_wp2_with fail
            go_roundg (9 - (k + 1))
            case measure => omega
            case rel => exact ⟨k + 1, _, by omega, rfl, by go_num, hP.out.1, hP.out.2⟩
        · obtain rfl : k = 9 := by omega
          obtain ⟨h1, h2, h3, h4, h5⟩ := hNh.out
          rw [hall.out] at h1
          have hB9 := hB0h.out.trans (h5.mono hWW)
          have cA := h3.cell
          have cR := h4.cell
          have fR := h4.frozen
          have hp1 := (h4.put 0 (.slice D (over L).length cd)).cell 0
          have hp2 := ((h4.put 0 (.slice D (over L).length cd)).put 1 (.slice E2 9 e2)).cell 1
          have hV := Lib.hid (show FcV wr W0.heap.size (.slice D (over L).length cd) (.slice E2 9 e2) (facBy_ L g) from ⟨h2, h1, hdh.out⟩)
          clear hp1 hp2
          have hp1 := (h4.put 0 (.slice D (over L).length cd)).cell 0
          have hp2 := ((h4.put 0 (.slice D (over L).length cd)).put 1 (.slice E2 9 e2)).cell 1
          go_wp2_with fail
          refine bodyPost_ret (v := .agg #[.slice D (over L).length cd, .slice E2 9 e2]) (by simp [results, Try.results117, go_sem, hp1, hp2]) rfl ⟨_, _, rfl, (hV.out.le hWW).put2 h4 _ _, ?_⟩
          exact (hB9.setCell (p := ⟨W0.heap.size, 0, none⟩) hWW _).setCell (p := ⟨W0.heap.size, 1, none⟩) hWW _
end Go.Proofs.Ytghkpmafocacoaa
