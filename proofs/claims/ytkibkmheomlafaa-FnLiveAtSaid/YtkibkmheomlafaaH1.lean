/- Slices: the program's marker. -/
import Derived.Test.YtkibkmheomlafaaH0
import Derived.Test.YtkibkmheomlafaaCc
import Derived.Test.YtkibkmheomlafaaAa
namespace Go.Proofs.Ytkibkmheomlafaa
set_option maxRecDepth 100000
set_option linter.unusedVariables false
open Go.RowKit

/-- A marker in memory. -/
def mkA (L m f : Int) : Array Value := #[.int .i64 L, .int .i64 m, .int .i64 f]
def mskS (s : St) (L m : Int) (k : Nat) : Int := if s.need L = true then bits .or .i64 m ((2 ^ k : Nat) : Int) else m
def byS (s : St) (L f : Int) : Int := if s.need L = true then f else f * facBy 2 s
theorem shl20 : ∀ x : Fin 20, IntKind.i64.wrap (2 ^ x.val) = ((2 ^ x.val : Nat) : Int) := by decide +kernel

theorem tally_sum (x y : Int) (wx : World) : (Instr.field 99 (.agg #[.int .i64 x, .int .i64 y]) 0).run Try.prog wx = .ok (.int .i64 x) wx := by kernel_rfl
set_option maxHeartbeats 2000000 in
theorem mark_any (g : Nat) (s : St) (L m f : Int) (k : Nat) (w : World) (hG : Has w g 60 (mkA L m f)) (ho : s.ok = true) (h6 : s.k < 6) (hL : 0 ≤ L ∧ L ≤ 15) (hk : k < 20) (hf : 1 ≤ f ∧ f ≤ 205891132094649) :
    Calls Try.prog 95 #[.pointer (some ⟨g, 0, none⟩), .agg #[.int .i64 s.k, .int .i64 s.a, .int .i64 s.b, .int .i64 s.c, .int .i64 s.u, .int .i64 s.v, .int .i64 s.x], .int .i64 k] w fun e w' => e = .returned (.tuple #[]) ∧ Has w' g 60 (mkA (s.ahead L) (mskS s L m k) (byS s L f)) ∧ KeptBut w w' (fun i => i = g) := by
  have cN := Lib.hid (fun wx => isNeeded_any s L wx ho hL)
  have cD := Lib.hid (fun wx => isDraw_any s wx)
  have cA := Lib.hid (fun wx => liveAhead_any s L wx ho hL)
  have hsh : ((2 ^ k : Nat) : Int) = 2 ^ k := Int.natCast_pow 2 k
  have hshw : IntKind.i64.wrap (2 ^ k) = 2 ^ k := (shl20 ⟨k, hk⟩).trans hsh
  have hgl := hG.lt
  have hS := Lib.hid (Has.new w 65 #[.int .i64 s.k, .int .i64 s.a, .int .i64 s.b, .int .i64 s.c, .int .i64 s.u, .int .i64 s.v, .int .i64 s.x])
  have hM := Lib.hid (hG.alloc (.cells #[.int .i64 s.k, .int .i64 s.a, .int .i64 s.b, .int .i64 s.c, .int .i64 s.u, .int .i64 s.v, .int .i64 s.x] 65))
  have hK := Lib.hid ((KeptBut.refl w (fun i => i = g)).alloc (.cells #[.int .i64 s.k, .int .i64 s.a, .int .i64 s.b, .int .i64 s.c, .int .i64 s.u, .int .i64 s.v, .int .i64 s.x] 65))
  cases hn : s.need L
  · have hNe := Lib.hid hn
    have hR := Lib.hid (show mskS s L m k = m by unfold mskS; rw [hn]; rfl)
    cases hd : s.draws
    · have hR2 := Lib.hid (show byS s L f = f by unfold byS facBy; rw [hn, hd]; simp)
      have hDr := Lib.hid hd
      clear hn hd hsh hshw
      go_enter Try.func95, Try.ntmps95
      go_wp2_with fail
      generalize w.alloc (.cells #[.int .i64 s.k, .int .i64 s.a, .int .i64 s.b, .int .i64 s.c, .int .i64 s.u, .int .i64 s.v, .int .i64 s.x] 65) = W0 at hS hM hK ⊢
      generalize w.heap.size = G at hS hgl ⊢
      have cs := hS.out.cell
      have cm := hM.out.cell
      simp only [mkA] at cm
      go_region_law (first | (go_simp; go_at_call 116; refine (cN.out _).mono ?_; rw [hNe.out]; rintro e w3 ⟨rfl, hb3⟩; have hB3 : Below W0.heap.size W0 w3 := (by first | exact hb3 | exact ((Below.refl _ _).drew).trans hb3); clear hb3))
      all_goals
        have hS3 := Lib.hid (hS.out.kept hB3)
        have hM3 := Lib.hid (hM.out.kept hB3)
        have hK3 := Lib.hid (hK.out.trans (KeptBut.of_below hB3 (fun i => i = g)) (fun _ _ h => h))
        clear cs cm hB3
        have cs := hS3.out.cell
        go_wp2_with fail
        refine (cD.out _).mono ?_
        rw [hDr.out]
        rintro e w4 ⟨rfl, hb4⟩
        have hM4h := Lib.hid (hM3.out.kept hb4)
        have hS4h := Lib.hid (hS3.out.kept hb4)
        have hK4 := Lib.hid (hK3.out.trans (KeptBut.of_below hb4 (fun i => i = g)) (fun _ _ h => h))
        clear hb4 cs
        have cm := hM4h.out.cell
        have fm := hM4h.out.frozen
        have cs := hS4h.out.cell
        simp only [mkA] at cm
        go_wp2_with fail
        go_region_law (first | (go_simp; go_at_call 118; refine (cA.out _).mono ?_; rintro e w5 ⟨rfl, hb5⟩; have hB5 : Below w4.heap.size w4 w5 := (by first | exact hb5 | exact ((Below.refl _ _).drew).trans hb5); have hM5 := hM4h.out.kept hB5; have c5 := hM5.cell; have f5 := hM5.frozen; simp only [mkA] at c5; clear hb5))
        all_goals
          have hM6 : Has (w5.setCell ⟨g, 0, none⟩ (.int .i64 (s.ahead L))) g 60 (mkA (s.ahead L) m f) := hM5.put 0 _
          have hK6 := Lib.hid ((hK4.out.trans (KeptBut.of_below hB5 (fun i => i = g)) (fun _ _ h => h)).put (p := ⟨g, 0, none⟩) (fun _ => rfl) (.int .i64 (s.ahead L)))
          have hM6h := Lib.hid hM6
          clear hM6 hM5 hB5 c5 f5
          go_wp2_with fail
          go_end0
          exact ⟨rfl, by rw [hR.out, hR2.out]; exact hM6h.out, hK6.out⟩
    · have hR2 := Lib.hid (show byS s L f = f * (s.u + s.v + s.x) by unfold byS facBy; rw [hn, hd]; simp)
      have hDr := Lib.hid hd
      have hws := ok_w ho h6
      have hsum : isum [s.u, s.v, s.x] = s.u + s.v + s.x := by simp [isum]; omega
      have cT := Lib.hid (fun wx G (hx : Has wx G 65 #[.int .i64 s.k, .int .i64 s.a, .int .i64 s.b, .int .i64 s.c, .int .i64 s.u, .int .i64 s.v, .int .i64 s.x]) => tallyOf_any (some ⟨G, 4, none⟩) 3 3 [s.u, s.v, s.x] wx (wts_ils hx) (by decide) (by simp; omega) (by rw [hsum]; omega))
      rw [hsum] at cT
      have hfm : 0 ≤ f * (s.u + s.v + s.x) ∧ f * (s.u + s.v + s.x) ≤ 205891132094649 * 27 := by
        have h1 := Int.mul_le_mul hf.2 (show s.u + s.v + s.x ≤ 27 by omega) (by omega) (by omega)
        have h2 := Int.mul_nonneg (show 0 ≤ f by omega) (show 0 ≤ s.u + s.v + s.x by omega)
        omega
      clear hn hd hsh hshw hsum hws
      go_enter Try.func95, Try.ntmps95
      go_wp2_with fail
      generalize w.alloc (.cells #[.int .i64 s.k, .int .i64 s.a, .int .i64 s.b, .int .i64 s.c, .int .i64 s.u, .int .i64 s.v, .int .i64 s.x] 65) = W0 at hS hM hK ⊢
      generalize w.heap.size = G at hS hgl ⊢
      have cs := hS.out.cell
      have cm := hM.out.cell
      simp only [mkA] at cm
      go_region_law (first | (go_simp; go_at_call 116; refine (cN.out _).mono ?_; rw [hNe.out]; rintro e w3 ⟨rfl, hb3⟩; have hB3 : Below W0.heap.size W0 w3 := (by first | exact hb3 | exact ((Below.refl _ _).drew).trans hb3); clear hb3))
      all_goals
        have hS3 := Lib.hid (hS.out.kept hB3)
        have hM3 := Lib.hid (hM.out.kept hB3)
        have hK3 := Lib.hid (hK.out.trans (KeptBut.of_below hB3 (fun i => i = g)) (fun _ _ h => h))
        clear cs cm hB3
        have cs := hS3.out.cell
        go_wp2_with fail
        refine (cD.out _).mono ?_
        rw [hDr.out]
        rintro e w4 ⟨rfl, hb4⟩
        have hM4h := Lib.hid (hM3.out.kept hb4)
        have hS4h := Lib.hid (hS3.out.kept hb4)
        have hK4 := Lib.hid (hK3.out.trans (KeptBut.of_below hb4 (fun i => i = g)) (fun _ _ h => h))
        clear hb4 cs
        have cm := hM4h.out.cell
        have fm := hM4h.out.frozen
        have cs := hS4h.out.cell
        simp only [mkA] at cm
        go_wp2_with fail
        have hwr := IntWalk.i64_in (f * (s.u + s.v + s.x)) (by omega)
        have hfd := tally_sum
        go_region_law (first | (go_simp; go_at_call 86; refine (cT.out _ G (by exact hS4h.out)).mono ?_; rintro e w5 ⟨rfl, hb5⟩; have hB5 : Below w4.heap.size w4 w5 := (by first | exact hb5 | exact ((Below.refl _ _).drew).trans hb5); have hM5 := hM4h.out.kept hB5; have c5 := hM5.cell; have f5 := hM5.frozen; simp only [mkA] at c5; clear hb5))
        all_goals
          have hM6 : Has (w5.setCell ⟨g, 2, none⟩ (.int .i64 (f * (s.u + s.v + s.x)))) g 60 (mkA L m (f * (s.u + s.v + s.x))) := hM5.put 2 _
          have hS6 : Has (w5.setCell ⟨g, 2, none⟩ (.int .i64 (f * (s.u + s.v + s.x)))) G 65 #[.int .i64 s.k, .int .i64 s.a, .int .i64 s.b, .int .i64 s.c, .int .i64 s.u, .int .i64 s.v, .int .i64 s.x] := (hS4h.out.kept hB5).far (by show G ≠ g; omega) _
          have hK6 := (hK4.out.trans (KeptBut.of_below hB5 (fun i => i = g)) (fun _ _ h => h)).put (p := ⟨g, 2, none⟩) (fun _ => rfl) (.int .i64 (f * (s.u + s.v + s.x)))
          clear hM5 hB5 c5 f5 cm fm cs hM4h hS4h hK4
          generalize w5.setCell ⟨g, 2, none⟩ (.int .i64 (f * (s.u + s.v + s.x))) = w4 at hM6 hS6 hK6 ⊢
          have hM4h := Lib.hid hM6
          have hS4h := Lib.hid hS6
          have hK4 := Lib.hid hK6
          clear hM6 hS6 hK6
          have cm := hM4h.out.cell
          have fm := hM4h.out.frozen
          have cs := hS4h.out.cell
          simp only [mkA] at cm
          go_wp2_with fail
          go_region_law (first | (go_simp; go_at_call 118; refine (cA.out _).mono ?_; rintro e w5 ⟨rfl, hb5⟩; have hB5 : Below w4.heap.size w4 w5 := (by first | exact hb5 | exact ((Below.refl _ _).drew).trans hb5); have hM5 := hM4h.out.kept hB5; have c5 := hM5.cell; have f5 := hM5.frozen; simp only [mkA] at c5; clear hb5))
          all_goals
            have hM6 : Has (w5.setCell ⟨g, 0, none⟩ (.int .i64 (s.ahead L))) g 60 (mkA (s.ahead L) m (f * (s.u + s.v + s.x))) := hM5.put 0 _
            have hK6 := Lib.hid ((hK4.out.trans (KeptBut.of_below hB5 (fun i => i = g)) (fun _ _ h => h)).put (p := ⟨g, 0, none⟩) (fun _ => rfl) (.int .i64 (s.ahead L)))
            have hM6h := Lib.hid hM6
            clear hM6 hM5 hB5 c5 f5
            go_wp2_with fail
            go_end0
            exact ⟨rfl, by rw [hR.out, hR2.out]; exact hM6h.out, hK6.out⟩
  · have hNe := Lib.hid hn
    have hR := Lib.hid (show mskS s L m k = bits .or .i64 m (2 ^ k) by unfold mskS; rw [hn, if_pos rfl, hsh])
    have hR2 := Lib.hid (show byS s L f = f by unfold byS; rw [hn]; rfl)
    clear hn
    go_enter Try.func95, Try.ntmps95
    go_wp2_with fail
    generalize w.alloc (.cells #[.int .i64 s.k, .int .i64 s.a, .int .i64 s.b, .int .i64 s.c, .int .i64 s.u, .int .i64 s.v, .int .i64 s.x] 65) = W0 at hS hM hK ⊢
    generalize w.heap.size = G at hS hgl ⊢
    have cs := hS.out.cell
    have cm := hM.out.cell
    simp only [mkA] at cm
    go_region_law (first | (go_simp; go_at_call 116; refine (cN.out _).mono ?_; rw [hNe.out]; rintro e w3 ⟨rfl, hb3⟩; have hB3 : Below W0.heap.size W0 w3 := (by first | exact hb3 | exact ((Below.refl _ _).drew).trans hb3); clear hb3))
    all_goals
      have hS3 := Lib.hid (hS.out.kept hB3)
      have hM3 := Lib.hid (hM.out.kept hB3)
      have hK3 := Lib.hid (hK.out.trans (KeptBut.of_below hB3 (fun i => i = g)) (fun _ _ h => h))
      clear cs cm hB3
      have cm := hM3.out.cell
      have fm := hM3.out.frozen
      simp only [mkA] at cm
      go_wp2_with fail
      go_region_law fail
      all_goals
        have hM4 : Has ((w3.setCell ⟨g, 1, none⟩ (.int .i64 (bits .or .i64 m (2 ^ k)))).drew) g 60 (mkA L (bits .or .i64 m (2 ^ k)) f) := hM3.out.put 1 _
        have hS4 : Has ((w3.setCell ⟨g, 1, none⟩ (.int .i64 (bits .or .i64 m (2 ^ k)))).drew) G 65 #[.int .i64 s.k, .int .i64 s.a, .int .i64 s.b, .int .i64 s.c, .int .i64 s.u, .int .i64 s.v, .int .i64 s.x] := hS3.out.far (by show G ≠ g; omega) _
        have hK4 := KeptBut.drewN (hK3.out.put (p := ⟨g, 1, none⟩) (fun _ => rfl) (.int .i64 (bits .or .i64 m (2 ^ k)))) 1
        change KeptBut w ((w3.setCell ⟨g, 1, none⟩ (.int .i64 (bits .or .i64 m (2 ^ k)))).drew) _ at hK4
        generalize (w3.setCell ⟨g, 1, none⟩ (.int .i64 (bits .or .i64 m (2 ^ k)))).drew = w4 at hM4 hS4 hK4 ⊢
        have hM4h := Lib.hid hM4
        have hS4h := Lib.hid hS4
        have hK4h := Lib.hid hK4
        clear cm fm hS4 hM4 hK4
        have cm := hM4h.out.cell
        have fm := hM4h.out.frozen
        have cs := hS4h.out.cell
        simp only [mkA] at cm
        go_wp2_with fail
        go_region_law (first | (go_simp; go_at_call 118; refine (cA.out _).mono ?_; rintro e w5 ⟨rfl, hb5⟩; have hB5 : Below w4.heap.size w4 w5 := (by first | exact hb5 | exact ((Below.refl _ _).drew).trans hb5); have hM5 := hM4h.out.kept hB5; have c5 := hM5.cell; have f5 := hM5.frozen; simp only [mkA] at c5; clear hb5))
        all_goals
          have hM6 : Has (w5.setCell ⟨g, 0, none⟩ (.int .i64 (s.ahead L))) g 60 (mkA (s.ahead L) (bits .or .i64 m (2 ^ k)) f) := hM5.put 0 _
          have hK6 := Lib.hid ((hK4h.out.trans (KeptBut.of_below hB5 (fun i => i = g)) (fun _ _ h => h)).put (p := ⟨g, 0, none⟩) (fun _ => rfl) (.int .i64 (s.ahead L)))
          have hM6h := Lib.hid hM6
          clear hM6 hM5 hB5 c5 f5
          go_wp2_with fail
          go_end0
          exact ⟨rfl, by rw [hR.out, hR2.out]; exact hM6h.out, hK6.out⟩

theorem isMarked_any (L m f : Int) (i : Nat) (w : World) (hi : i < 20) :
    Calls Try.prog 52 #[.agg (mkA L m f), .int .i64 i] w fun e w' => e = .returned (.bool (bits .and .i64 (m / 2 ^ ((i : Nat) : Int).toNat) 1 == 1)) ∧ Below w.heap.size w w' := by
  have hB : Below w.heap.size w (w.alloc (.cells #[.int .i64 L, .int .i64 m, .int .i64 f] 60)) := (Below.refl _ _).alloc (Nat.le_refl _) _
  have hi0 : (0 : Int) ≤ (i : Int) := by omega
  have hi64 : (i : Int) ≤ 64 := by omega
  unfold mkA
  go_enter Try.func52, Try.ntmps52
  go_wp2_with fail
  go_ret
  exact ⟨rfl, hB⟩
theorem mark_step {ps : List St} (hok : ∀ s ∈ ps, s.ok = true ∧ s.k < 6) {V : Int} (hV : 0 ≤ V ∧ V ≤ 15) {k : Nat} {s : St} (hs : ps[k]? = some s) {m : Int} (hm : Msk ps V (k + 1) m) (hk : k < 20) :
    s.ahead (needL (ps.drop (k + 1)) V) = needL (ps.drop k) V ∧ Msk ps V k (mskS s (needL (ps.drop (k + 1)) V) m k) ∧ byS s (needL (ps.drop (k + 1)) V) (byL (ps.drop (k + 1)) V) = byL (ps.drop k) V := by
  have ho := hok s (List.mem_of_getElem? hs)
  have hL := needL_bd hV (ps := ps.drop (k + 1)) (fun t ht => hok t (List.mem_of_mem_drop ht))
  refine ⟨by rw [ahead_bk ho.1 ho.2 hL, needL_step hs], ?_, ?_⟩
  · unfold mskS
    rw [need_isN ho.1 ho.2]
    cases hn : s.isN (needL (ps.drop (k + 1)) V)
    · rw [if_neg (by decide)]
      exact hm.pass (by rw [neAt_of hs, hn])
    · rw [if_pos rfl]
      exact hm.set (by rw [neAt_of hs, hn]) hk
  · unfold byS
    rw [need_isN ho.1 ho.2, byL_step hs]
    cases hn : s.isN (needL (ps.drop (k + 1)) V)
    · rw [if_neg (by decide), if_neg (by decide), Int.mul_comm]
    · rw [if_pos rfl, if_pos rfl]
end Go.Proofs.Ytkibkmheomlafaa
