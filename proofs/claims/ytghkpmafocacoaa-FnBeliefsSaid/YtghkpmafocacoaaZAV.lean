/- Parts of the proof: L9. -/
import Derived.Test.YtghkpmafocacoaaZAU
import Derived.Test.YtghkpmafocacoaaZAG
namespace Go.Proofs.Ytghkpmafocacoaa
set_option maxRecDepth 100000
set_option linter.unusedVariables false
open Go.RowKit
def msum (Fs : List Fac) (g : Gr) (u t y : Nat) : Nat → Int
  | 0 => 0
  | x + 1 => msum Fs g u t y x + allT Fs g u t x * fAt (btw Fs u t) (st2 u x t y)
theorem msum_all {Fs : List Fac} {g : Gr} (ha : g.acy = true) {u t : Nat} (hu : u ≤ 3) (ht : t ≤ 3) (h : (g.nx u).testBit t = true) (y : Nat) : msum Fs g u t y 3 = msgT Fs g u t y := by
  rw [msgT_eq ha hu ht h]
  show ((0 + _) + _) + _ = _ + _ + _
  rw [Int.zero_add]
theorem msum_step (Fs : List Fac) (g : Gr) (u t y x : Nat) : IntKind.i64.wrap (IntKind.i64.wrap (msum Fs g u t y x) + IntKind.i64.wrap (IntKind.i64.wrap (allT Fs g u t x) * fAt (btw Fs u t) (st2 u x t y))) = IntKind.i64.wrap (msum Fs g u t y (x + 1)) := by
  rw [wrap_mul_l, wrap_add]
  rfl
/-- The factor between two. -/
theorem btw_ok {Fs : List Fac} {g : Gr} (hF : ∀ F ∈ Fs, facOk 9 F = true) (hst : Fst Fs g) {u t : Nat} (hu : u ≤ 3) (ht : t ≤ 3) (h : (g.nx u).testBit t = true) : facOk 9 (btw Fs u t) = true := by
  rw [hst.ed ⟨u, by omega⟩ ⟨t, by omega⟩] at h
  obtain ⟨x, hx, hp⟩ := List.any_eq_true.1 h
  unfold btw
  cases hq : Fs.find? (fun F => isP F u t) with
  | none => exact absurd hp (List.find?_eq_none.1 hq x hx)
  | some y => exact hF y (List.mem_of_find?_eq_some hq)
theorem st2_bd {u x t y : Nat} (hu : u ≤ 3) (hx : x ≤ 2) (ht : t ≤ 3) (hy : y ≤ 2) : 0 ≤ st2 u x t y ∧ st2 u x t y ≤ 80 := by
  have hall : ∀ u t : Fin 4, ∀ x y : Fin 3, 0 ≤ st2 u.val x.val t.val y.val ∧ st2 u.val x.val t.val y.val ≤ 80 := by decide +kernel
  exact hall ⟨u, by omega⟩ ⟨t, by omega⟩ ⟨x, by omega⟩ ⟨y, by omega⟩
set_option maxHeartbeats 2000000 in
theorem tell_any (B G : Nat) (hBG : B ≤ G) (f : Fo) (g : Gr) (Fs : List Fac) (u t : Nat) (w : World) (h : FoW w G f) (hf : Frs w B Fs g f) (hF : ∀ F ∈ Fs, facOk 9 F = true) (hst : Fst Fs g) (hu : u ≤ 3) (ht : t ≤ 3) (he : (g.nx u).testBit t = true) (hown : ∀ v x, 0 ≤ ownL Fs v x ∧ ownL Fs v x ≤ 43046721) (hT : ∀ r ∈ nbs g u t, ∀ x, x ≤ 2 → f.told r u x = IntKind.i64.wrap (msgT Fs g r u x)) :
    Calls Try.prog 142 #[.pointer (some ⟨G, 0, none⟩), .int .i64 (u : Int), .int .i64 (t : Int)] w fun e w' => e = .returned (.tuple #[]) ∧ KeptBut w w' (fun i => i = G) ∧ FoW w' G (((f.setTold u t 0 (IntKind.i64.wrap (msgT Fs g u t 0))).setTold u t 1 (IntKind.i64.wrap (msgT Fs g u t 1))).setTold u t 2 (IntKind.i64.wrap (msgT Fs g u t 2))) := by
  have hG := Has.lt h
  obtain ⟨A1, n1, c1, A2, n2, c2, e1, e2, hFW⟩ := hf.btw u t hu ht he
  have hok := btw_ok hF hst hu ht he
  obtain ⟨q1, q2, q3, q4, q5⟩ := fac_parts hok
  have hn1 : n1 ≤ 4 := by have := hFW.1.1; omega
  have cK := Lib.hid (fun wx hx hy => known_any B G f g Fs u (t : Int) t wx hx hy hu (by omega) (by rw [if_pos ht]) hown hT)
  have hW0 := Lib.hid (h.alloc (.cells #[.int .i64 0, .int .i64 0, .int .i64 0] 45))
  have hf0 := Lib.hid (hf.below (((Below.refl w.heap.size w).alloc (Nat.le_refl _) (.cells #[.int .i64 0, .int .i64 0, .int .i64 0] 45)).mono (show B ≤ w.heap.size by omega)))
  have hFW0 := Lib.hid (hFW.keep_ (((Below.refl w.heap.size w).alloc (Nat.le_refl _) (.cells #[.int .i64 0, .int .i64 0, .int .i64 0] 45)).mono (show B ≤ w.heap.size by omega)))
  have hX0 := Lib.hid (Has.new w 45 #[.int .i64 0, .int .i64 0, .int .i64 0])
  have hB0 := Lib.hid (show Below w.heap.size w (w.alloc (.cells #[.int .i64 0, .int .i64 0, .int .i64 0] 45)) from (Below.refl _ _).alloc (Nat.le_refl _) _)
  have hu0 : (0 : Int) ≤ (u : Int) := by omega
  have hu4 : (u : Int) < 4 := by omega
  have ht0 : (0 : Int) ≤ (t : Int) := by omega
  have ht4 : (t : Int) < 4 := by omega
  have hms := Lib.hid (fun y => msum_all hst.acy hu ht he y (Fs := Fs))
  have hstep := Lib.hid (fun y x => msum_step Fs g u t y x)
  have hne : w.heap.size ≠ G := by omega
  have hq := Lib.hid (And.intro hok (And.intro q3 q5))
  clear h hf hFW hok q1 q2 q3 q5 hown hT hst hF he
  go_enter Try.func142, Try.ntmps142
  go_wp2_with fail
  obtain ⟨M, hM⟩ : ∃ M, w.heap.size = M := ⟨_, rfl⟩
  rw [hM] at hX0 hB0 hne ⊢
  have hMh := Lib.hid hM
  have hGM : G < M := by omega
  have hBM : B ≤ M := by omega
  clear hM
  generalize w.alloc (.cells #[.int .i64 0, .int .i64 0, .int .i64 0] 45) = W1 at hW0 hf0 hFW0 hX0 hB0 ⊢
  refine (cK.out W1 hW0.out hf0.out).mono ?_
  rintro e W2 ⟨rfl, hb2⟩
  have hMle := hB0.out.size
  have hM1 : M ≤ W1.heap.size := by have := hMh.out; omega
  have hW2 := Lib.hid (hW0.out.kept hb2)
  have hX2 := Lib.hid (show Has W2 M 45 (A3 (fun y => IntKind.i64.wrap (msum Fs g u t y 0))) from hX0.out.kept hb2)
  have hB2 := Lib.hid (hB0.out.trans (hb2.mono hM1))
  have hF2 := Lib.hid (hFW0.out.keep_ (hb2.mono (show B ≤ W1.heap.size by omega)))
  clear hb2 hW0 hf0 hFW0 hX0 hB0 hMle
  obtain ⟨Kn, hKn⟩ : ∃ Kn : Nat → Int, (fun x => IntKind.i64.wrap (allT Fs g u t x)) = Kn := ⟨_, rfl⟩
  rw [hKn]
  have hKh := Lib.hid (fun x => (congrFun hKn x : IntKind.i64.wrap (allT Fs g u t x) = Kn x))
  have hixK := Lib.hid (fun q (hq : q < 3) wx => index_A3 Kn hq wx)
  clear hKn
  unfold A3
  go_wp2_with fail
  go_loopg [15] 3 (fun gn i wr => ∃ x : Nat, x ≤ 3 ∧ gn = 3 - x ∧ i = .int .i64 x ∧ FoW wr G f ∧ Has wr M 45 (A3 (fun y => IntKind.i64.wrap (msum Fs g u t y x))) ∧ Below M w wr ∧ FacW wr B A1 n1 A2 n2 (btw Fs u t))
  case atStart => exact ⟨0, by omega, rfl, rfl, hW2.out, hX2.out, hB2.out, hF2.out⟩
  case round =>
    obtain ⟨x, hx, hgn, rfl, hF, hXx, hBx, hFx⟩ := hrel
    have hgk : gk = 3 - x := hgn
    have hFh := Lib.hid hF
    have hXh := Lib.hid hXx
    have hBh := Lib.hid hBx
    have hFWh := Lib.hid hFx
    clear hgn hF hXx hBx hFx hW2 hX2 hB2 hF2
    by_cases hlt : x < 3
    · have hx0 : (0 : Int) ≤ (x : Int) := by omega
      have hx3 : (x : Int) < 3 := by omega
      have hi3 := hixK.out x hlt
      have cW := Lib.hid (fun wx => WithValue_any 0 (u : Int) (x : Int) wx)
      have hst2 : Hid (∀ y : Nat, st2 u x t y = withValue (withValue 0 (u : Int) (x : Int)) (t : Int) (y : Int)) := Lib.hid (fun y => rfl)
      have hsb := Lib.hid (fun y (hy : y ≤ 2) => st2_bd (y := y) hu (show x ≤ 2 by omega) ht hy)
      obtain ⟨S1, hS1⟩ : ∃ S1, withValue 0 (u : Int) (x : Int) = S1 := ⟨_, rfl⟩
      rw [hS1] at cW hst2
      obtain ⟨kx, hkx⟩ : ∃ kx, Kn x = kx := ⟨_, rfl⟩
      rw [hkx] at hi3
      have hmm := Lib.hid (fun y => (show IntKind.i64.wrap (IntKind.i64.wrap (msum Fs g u t y x) + IntKind.i64.wrap (kx * fAt (btw Fs u t) (withValue S1 (t : Int) (y : Int)))) = IntKind.i64.wrap (msum Fs g u t y (x + 1)) from by
        rw [← hkx, ← hKh.out x, ← hst2.out y]
        exact hstep.out y x))
      clear hS1 hkx
      go_wp2_with fail
      refine (cW.out wr).mono ?_
      rintro e w' ⟨rfl, rfl⟩
      go_wp2_with fail
      obtain ⟨x0, rfl⟩ : ∃ q, q = x := ⟨_, rfl⟩
      obtain ⟨w3, rfl⟩ : ∃ q : World, q = wr := ⟨_, rfl⟩
      obtain ⟨g3, rfl⟩ : ∃ q, q = gk := ⟨_, rfl⟩
      obtain ⟨Mp, hMp⟩ : ∃ Mp : Nat → Int, (fun y => IntKind.i64.wrap (msum Fs g u t y x0)) = Mp := ⟨_, rfl⟩
      obtain ⟨Mn, hMn⟩ : ∃ Mn : Nat → Int, (fun y => IntKind.i64.wrap (msum Fs g u t y (x0 + 1))) = Mn := ⟨_, rfl⟩
      have hadd := Lib.hid (fun y => (show IntKind.i64.wrap (Mp y + IntKind.i64.wrap (kx * fAt (btw Fs u t) (withValue S1 (t : Int) (y : Int)))) = Mn y from by rw [← hMp, ← hMn]; exact hmm.out y))
      rw [hMp] at hXh
      have hMnh := Lib.hid hMn
      clear hMp hMn hmm
      go_loopg [22] 3 (fun gn i wr => ∃ j : Nat, j ≤ 3 ∧ gn = 3 - j ∧ i = .int .i64 j ∧ FoW wr G f ∧ Has wr M 45 (A3 (midK Mp Mn j)) ∧ Below M w wr ∧ FacW wr B A1 n1 A2 n2 (btw Fs u t))
      case atStart => exact ⟨0, by omega, rfl, rfl, hFh.out, hXh.out, hBh.out, hFWh.out⟩
      case round =>
        obtain ⟨j, hj, hgn, rfl, hF, hXj, hBj, hFj⟩ := hrel
        have hgj : gk = 3 - j := hgn
        have hFk := Lib.hid hF
        have hXk := Lib.hid hXj
        have hBk := Lib.hid hBj
        have hFWk := Lib.hid hFj
        clear hgn hF hXj hBj hFj hFh hXh hBh hFWh
        by_cases hlj : j < 3
        · have hj0 : (0 : Int) ≤ (j : Int) := by omega
          have hj3 : (j : Int) < 3 := by omega
          have hmj : midK Mp Mn j j = Mp j := by unfold midK; rw [if_neg (by omega)]
          have hcm := Lib.hid ((A3_at (midK Mp Mn j) (j := j) (by omega)).trans (by rw [hmj]))
          have cW2 := Lib.hid (fun wx => WithValue_any S1 (t : Int) (j : Int) wx)
          have hs2 := hsb.out j (by omega)
          rw [hst2.out j] at hs2
          have cI := Lib.hid (fun wx hx => numberIn_any A1 A2 n1 c1 n2 c2 (btw Fs u t) (withValue S1 (t : Int) (j : Int)) wx hx hn1 hq.out.2.1 hq.out.2.2 hs2)
          have had := hadd.out j
          have hbt1 := Lib.hid ((Fo.b1_at f (a := u) (b := t) hu ht rfl).trans (by rw [e1]))
          have hbt2 := Lib.hid ((Fo.b2_at f (a := u) (b := t) hu ht rfl).trans (by rw [e2]))
          generalize withValue S1 (t : Int) (j : Int) = s2 at cW2 cI had
          generalize fAt (btw Fs u t) s2 = z at cI had
          have hMpj := Lib.hid (rfl : Mp j = Mp j)
          generalize hmp : Mp j = mp at had hcm
          generalize hmn : Mn j = mn at had
          have hmnh := Lib.hid hmn
          clear hmp hmn hmj
          have hzM : M ≤ wr.heap.size := by have h1 := hBk.out.size; have h2 := hMh.out; omega
          have hzB : B ≤ wr.heap.size := by omega
          go_wp2_with fail
          refine wp_region_any (by kernel_rfl) ?_
          change wpAny _ _ _ _ _ _ _ (World.drew _)
          refine wpAny_last (n := 20) (I := fun listed aq wx => listed.size = 21 ∧ ∃ v25 v26 v27 v28 v29 v30 v31 v32 v33 v34 v35 v36 v37 v38 v39 v40 v41 v42 v43 v44 : Value, aq = { tmps := #[.pointer (some ⟨G, 0, none⟩), .int .i64 ↑u, .int .i64 ↑t, undef, undef, undef, .pointer (some ⟨M, 0, none⟩), .int .i64 ↑x0, .int .i64 kx, .int .i64 S1, .int .i64 ↑j, .pointer (some ⟨G, 0, none⟩), .int .i64 ↑u, .int .i64 ↑t, .agg #[.int .i64 (Kn 0), .int .i64 (Kn 1), .int .i64 (Kn 2)], .int .i64 ↑x0, .bool true, .int .i64 ↑x0, .int .i64 kx, .int .i64 ↑u, .int .i64 ↑x0, .int .i64 S1, .int .i64 ↑j, .bool true, .int .i64 ↑j, v25, v26, v27, v28, v29, v30, v31, v32, v33, v34, v35, v36, v37, v38, v39, v40, v41, v42, v43, v44, u45, u46, undef, undef, undef, undef, undef, undef, undef, undef], defers := [] } ∧ (listed.getD 0 false = true → v25 = .int .i64 ↑j) ∧ (listed.getD 1 false = true → v26 = .pointer (some ⟨M, j, none⟩)) ∧ (listed.getD 2 false = true → v27 = .int .i64 mp) ∧ (listed.getD 3 false = true → v28 = .int .i64 kx) ∧ (listed.getD 4 false = true → v29 = .pointer (some ⟨G, 0, none⟩)) ∧ (listed.getD 5 false = true → v30 = .int .i64 ↑u) ∧ (listed.getD 6 false = true → v31 = .int .i64 ↑t) ∧ (listed.getD 7 false = true → v32 = .pointer (some ⟨G, 0, none⟩)) ∧ (listed.getD 8 false = true → v33 = .pointer (some ⟨G, 17, none⟩)) ∧ (listed.getD 9 false = true → v34 = .pointer (some ⟨G, 17 + u * 8, none⟩)) ∧ (listed.getD 10 false = true → v35 = .pointer (some ⟨G, 17 + u * 8 + t * 2, none⟩)) ∧ (listed.getD 11 false = true → v36 = .agg #[.slice A1 n1 c1, .slice A2 n2 c2]) ∧ (listed.getD 12 false = true → v37 = .int .i64 S1) ∧ (listed.getD 13 false = true → v38 = .int .i64 ↑t) ∧ (listed.getD 14 false = true → v39 = .int .i64 ↑j) ∧ (listed.getD 15 false = true → v40 = .int .i64 s2) ∧ (listed.getD 16 false = true → v41 = .int .i64 z) ∧ (listed.getD 17 false = true → v42 = .int .i64 (IntKind.i64.wrap (kx * z))) ∧ (listed.getD 18 false = true → v43 = .int .i64 mn) ∧ (listed.getD 19 false = true → v44 = .pointer (some ⟨M, j, none⟩)) ∧ Below wr.heap.size wr wx) rfl (by kernel_rfl) (by kernel_rfl) ?hs ?hl _ _ _ ?st rfl (by decide) _ (by decide)
          case st =>
            refine ⟨rfl, u25, u26, u27, u28, u29, u30, u31, u32, u33, u34, u35, u36, u37, u38, u39, u40, u41, u42, u43, u44, rfl, ?_, ?_, ?_, ?_, ?_, ?_, ?_, ?_, ?_, ?_, ?_, ?_, ?_, ?_, ?_, ?_, ?_, ?_, ?_, ?_, (Below.refl _ _).drew⟩ <;> (intro e; exact absurd e (by decide))
          case hs =>
            rintro listed aq wx ⟨hz, v25, v26, v27, v28, v29, v30, v31, v32, v33, v34, v35, v36, v37, v38, v39, v40, v41, v42, v43, v44, rfl, hII⟩ i hin hi
            obtain ⟨h0, o, ho, hd⟩ := mem_ready.1 hi
            have K0 := Lib.hid hII.1
            have K1 := Lib.hid hII.2.1
            have K2 := Lib.hid hII.2.2.1
            have K3 := Lib.hid hII.2.2.2.1
            have K4 := Lib.hid hII.2.2.2.2.1
            have K5 := Lib.hid hII.2.2.2.2.2.1
            have K6 := Lib.hid hII.2.2.2.2.2.2.1
            have K7 := Lib.hid hII.2.2.2.2.2.2.2.1
            have K8 := Lib.hid hII.2.2.2.2.2.2.2.2.1
            have K9 := Lib.hid hII.2.2.2.2.2.2.2.2.2.1
            have K10 := Lib.hid hII.2.2.2.2.2.2.2.2.2.2.1
            have K11 := Lib.hid hII.2.2.2.2.2.2.2.2.2.2.2.1
            have K12 := Lib.hid hII.2.2.2.2.2.2.2.2.2.2.2.2.1
            have K13 := Lib.hid hII.2.2.2.2.2.2.2.2.2.2.2.2.2.1
            have K14 := Lib.hid hII.2.2.2.2.2.2.2.2.2.2.2.2.2.2.1
            have K15 := Lib.hid hII.2.2.2.2.2.2.2.2.2.2.2.2.2.2.2.1
            have K16 := Lib.hid hII.2.2.2.2.2.2.2.2.2.2.2.2.2.2.2.2.1
            have K17 := Lib.hid hII.2.2.2.2.2.2.2.2.2.2.2.2.2.2.2.2.2.1
            have K18 := Lib.hid hII.2.2.2.2.2.2.2.2.2.2.2.2.2.2.2.2.2.2.1
            have K19 := Lib.hid hII.2.2.2.2.2.2.2.2.2.2.2.2.2.2.2.2.2.2.2.1
            have hB : Below wr.heap.size wr wx := hII.2.2.2.2.2.2.2.2.2.2.2.2.2.2.2.2.2.2.2.2
            have hne := Lib.hid (fun k (hk : i ≠ k) => @listed_ne listed i k hk)
            have hFx : FoW wx G f := hFk.out.kept hB
            have hXx : Has wx M _ _ := hXk.out.kept hB
            have hNx : FacW wx wx.heap.size A1 n1 A2 n2 (btw Fs u t) := ((hFWk.out.keep_ (hB.mono hzB)).more (Nat.le_trans hzB hB.size))
            have h0f : listed.getD i false = false := by rw [Array.getD_eq_getD_getElem?, getD_false h0]; rfl
            clear hII hi h0
            rcases (by omega : i = 0 ∨ i = 1 ∨ i = 2 ∨ i = 3 ∨ i = 4 ∨ i = 5 ∨ i = 6 ∨ i = 7 ∨ i = 8 ∨ i = 9 ∨ i = 10 ∨ i = 11 ∨ i = 12 ∨ i = 13 ∨ i = 14 ∨ i = 15 ∨ i = 16 ∨ i = 17 ∨ i = 18 ∨ i = 19) with rfl | rfl | rfl | rfl | rfl | rfl | rfl | rfl | rfl | rfl | rfl | rfl | rfl | rfl | rfl | rfl | rfl | rfl | rfl | rfl
            · cases ho
              refine wpOp_step rfl (fun K hK => ?_)
              go_simp
              refine hK _ _ ⟨by simpa using hz, .int .i64 ↑j, v26, v27, v28, v29, v30, v31, v32, v33, v34, v35, v36, v37, v38, v39, v40, v41, v42, v43, v44, rfl, ?_⟩
              exact ⟨fun _ => rfl, fun e => K1.out (hne.out 1 (by decide) e), fun e => K2.out (hne.out 2 (by decide) e), fun e => K3.out (hne.out 3 (by decide) e), fun e => K4.out (hne.out 4 (by decide) e), fun e => K5.out (hne.out 5 (by decide) e), fun e => K6.out (hne.out 6 (by decide) e), fun e => K7.out (hne.out 7 (by decide) e), fun e => K8.out (hne.out 8 (by decide) e), fun e => K9.out (hne.out 9 (by decide) e), fun e => K10.out (hne.out 10 (by decide) e), fun e => K11.out (hne.out 11 (by decide) e), fun e => K12.out (hne.out 12 (by decide) e), fun e => K13.out (hne.out 13 (by decide) e), fun e => K14.out (hne.out 14 (by decide) e), fun e => K15.out (hne.out 15 (by decide) e), fun e => K16.out (hne.out 16 (by decide) e), fun e => K17.out (hne.out 17 (by decide) e), fun e => K18.out (hne.out 18 (by decide) e), fun e => K19.out (hne.out 19 (by decide) e), hB⟩
            · cases ho
              have d0 := hd ⟨0, .data⟩ (by simp) rfl
              obtain rfl := K0.out d0
              refine wpOp_step rfl (fun K hK => ?_)
              go_simp
              refine hK _ _ ⟨by simpa using hz, .int .i64 ↑j, .pointer (some ⟨M, j, none⟩), v27, v28, v29, v30, v31, v32, v33, v34, v35, v36, v37, v38, v39, v40, v41, v42, v43, v44, rfl, ?_⟩
              exact ⟨fun e => K0.out (hne.out 0 (by decide) e), fun _ => rfl, fun e => K2.out (hne.out 2 (by decide) e), fun e => K3.out (hne.out 3 (by decide) e), fun e => K4.out (hne.out 4 (by decide) e), fun e => K5.out (hne.out 5 (by decide) e), fun e => K6.out (hne.out 6 (by decide) e), fun e => K7.out (hne.out 7 (by decide) e), fun e => K8.out (hne.out 8 (by decide) e), fun e => K9.out (hne.out 9 (by decide) e), fun e => K10.out (hne.out 10 (by decide) e), fun e => K11.out (hne.out 11 (by decide) e), fun e => K12.out (hne.out 12 (by decide) e), fun e => K13.out (hne.out 13 (by decide) e), fun e => K14.out (hne.out 14 (by decide) e), fun e => K15.out (hne.out 15 (by decide) e), fun e => K16.out (hne.out 16 (by decide) e), fun e => K17.out (hne.out 17 (by decide) e), fun e => K18.out (hne.out 18 (by decide) e), fun e => K19.out (hne.out 19 (by decide) e), hB⟩
            · cases ho
              have d1 := hd ⟨1, .data⟩ (by simp) rfl
              obtain rfl := K1.out d1
              have hcc := (Has.cell hXx j).trans hcm.out
              refine wpOp_step rfl (fun K hK => ?_)
              go_simp
              refine hK _ _ ⟨by simpa using hz, v25, .pointer (some ⟨M, j, none⟩), .int .i64 mp, v28, v29, v30, v31, v32, v33, v34, v35, v36, v37, v38, v39, v40, v41, v42, v43, v44, rfl, ?_⟩
              exact ⟨fun e => K0.out (hne.out 0 (by decide) e), fun e => K1.out (hne.out 1 (by decide) e), fun _ => rfl, fun e => K3.out (hne.out 3 (by decide) e), fun e => K4.out (hne.out 4 (by decide) e), fun e => K5.out (hne.out 5 (by decide) e), fun e => K6.out (hne.out 6 (by decide) e), fun e => K7.out (hne.out 7 (by decide) e), fun e => K8.out (hne.out 8 (by decide) e), fun e => K9.out (hne.out 9 (by decide) e), fun e => K10.out (hne.out 10 (by decide) e), fun e => K11.out (hne.out 11 (by decide) e), fun e => K12.out (hne.out 12 (by decide) e), fun e => K13.out (hne.out 13 (by decide) e), fun e => K14.out (hne.out 14 (by decide) e), fun e => K15.out (hne.out 15 (by decide) e), fun e => K16.out (hne.out 16 (by decide) e), fun e => K17.out (hne.out 17 (by decide) e), fun e => K18.out (hne.out 18 (by decide) e), fun e => K19.out (hne.out 19 (by decide) e), hB⟩
            · cases ho
              refine wpOp_step rfl (fun K hK => ?_)
              go_simp
              refine hK _ _ ⟨by simpa using hz, v25, v26, v27, .int .i64 kx, v29, v30, v31, v32, v33, v34, v35, v36, v37, v38, v39, v40, v41, v42, v43, v44, rfl, ?_⟩
              exact ⟨fun e => K0.out (hne.out 0 (by decide) e), fun e => K1.out (hne.out 1 (by decide) e), fun e => K2.out (hne.out 2 (by decide) e), fun _ => rfl, fun e => K4.out (hne.out 4 (by decide) e), fun e => K5.out (hne.out 5 (by decide) e), fun e => K6.out (hne.out 6 (by decide) e), fun e => K7.out (hne.out 7 (by decide) e), fun e => K8.out (hne.out 8 (by decide) e), fun e => K9.out (hne.out 9 (by decide) e), fun e => K10.out (hne.out 10 (by decide) e), fun e => K11.out (hne.out 11 (by decide) e), fun e => K12.out (hne.out 12 (by decide) e), fun e => K13.out (hne.out 13 (by decide) e), fun e => K14.out (hne.out 14 (by decide) e), fun e => K15.out (hne.out 15 (by decide) e), fun e => K16.out (hne.out 16 (by decide) e), fun e => K17.out (hne.out 17 (by decide) e), fun e => K18.out (hne.out 18 (by decide) e), fun e => K19.out (hne.out 19 (by decide) e), hB⟩
            · cases ho
              refine wpOp_step rfl (fun K hK => ?_)
              go_simp
              refine hK _ _ ⟨by simpa using hz, v25, v26, v27, v28, .pointer (some ⟨G, 0, none⟩), v30, v31, v32, v33, v34, v35, v36, v37, v38, v39, v40, v41, v42, v43, v44, rfl, ?_⟩
              exact ⟨fun e => K0.out (hne.out 0 (by decide) e), fun e => K1.out (hne.out 1 (by decide) e), fun e => K2.out (hne.out 2 (by decide) e), fun e => K3.out (hne.out 3 (by decide) e), fun _ => rfl, fun e => K5.out (hne.out 5 (by decide) e), fun e => K6.out (hne.out 6 (by decide) e), fun e => K7.out (hne.out 7 (by decide) e), fun e => K8.out (hne.out 8 (by decide) e), fun e => K9.out (hne.out 9 (by decide) e), fun e => K10.out (hne.out 10 (by decide) e), fun e => K11.out (hne.out 11 (by decide) e), fun e => K12.out (hne.out 12 (by decide) e), fun e => K13.out (hne.out 13 (by decide) e), fun e => K14.out (hne.out 14 (by decide) e), fun e => K15.out (hne.out 15 (by decide) e), fun e => K16.out (hne.out 16 (by decide) e), fun e => K17.out (hne.out 17 (by decide) e), fun e => K18.out (hne.out 18 (by decide) e), fun e => K19.out (hne.out 19 (by decide) e), hB⟩
            · cases ho
              refine wpOp_step rfl (fun K hK => ?_)
              go_simp
              refine hK _ _ ⟨by simpa using hz, v25, v26, v27, v28, v29, .int .i64 ↑u, v31, v32, v33, v34, v35, v36, v37, v38, v39, v40, v41, v42, v43, v44, rfl, ?_⟩
              exact ⟨fun e => K0.out (hne.out 0 (by decide) e), fun e => K1.out (hne.out 1 (by decide) e), fun e => K2.out (hne.out 2 (by decide) e), fun e => K3.out (hne.out 3 (by decide) e), fun e => K4.out (hne.out 4 (by decide) e), fun _ => rfl, fun e => K6.out (hne.out 6 (by decide) e), fun e => K7.out (hne.out 7 (by decide) e), fun e => K8.out (hne.out 8 (by decide) e), fun e => K9.out (hne.out 9 (by decide) e), fun e => K10.out (hne.out 10 (by decide) e), fun e => K11.out (hne.out 11 (by decide) e), fun e => K12.out (hne.out 12 (by decide) e), fun e => K13.out (hne.out 13 (by decide) e), fun e => K14.out (hne.out 14 (by decide) e), fun e => K15.out (hne.out 15 (by decide) e), fun e => K16.out (hne.out 16 (by decide) e), fun e => K17.out (hne.out 17 (by decide) e), fun e => K18.out (hne.out 18 (by decide) e), fun e => K19.out (hne.out 19 (by decide) e), hB⟩
            · cases ho
              refine wpOp_step rfl (fun K hK => ?_)
              go_simp
              refine hK _ _ ⟨by simpa using hz, v25, v26, v27, v28, v29, v30, .int .i64 ↑t, v32, v33, v34, v35, v36, v37, v38, v39, v40, v41, v42, v43, v44, rfl, ?_⟩
              exact ⟨fun e => K0.out (hne.out 0 (by decide) e), fun e => K1.out (hne.out 1 (by decide) e), fun e => K2.out (hne.out 2 (by decide) e), fun e => K3.out (hne.out 3 (by decide) e), fun e => K4.out (hne.out 4 (by decide) e), fun e => K5.out (hne.out 5 (by decide) e), fun _ => rfl, fun e => K7.out (hne.out 7 (by decide) e), fun e => K8.out (hne.out 8 (by decide) e), fun e => K9.out (hne.out 9 (by decide) e), fun e => K10.out (hne.out 10 (by decide) e), fun e => K11.out (hne.out 11 (by decide) e), fun e => K12.out (hne.out 12 (by decide) e), fun e => K13.out (hne.out 13 (by decide) e), fun e => K14.out (hne.out 14 (by decide) e), fun e => K15.out (hne.out 15 (by decide) e), fun e => K16.out (hne.out 16 (by decide) e), fun e => K17.out (hne.out 17 (by decide) e), fun e => K18.out (hne.out 18 (by decide) e), fun e => K19.out (hne.out 19 (by decide) e), hB⟩
            · cases ho
              have d4 := hd ⟨4, .data⟩ (by simp) rfl
              obtain rfl := K4.out d4
              refine wpOp_step rfl (fun K hK => ?_)
              go_simp
              refine hK _ _ ⟨by simpa using hz, v25, v26, v27, v28, .pointer (some ⟨G, 0, none⟩), v30, v31, .pointer (some ⟨G, 0, none⟩), v33, v34, v35, v36, v37, v38, v39, v40, v41, v42, v43, v44, rfl, ?_⟩
              exact ⟨fun e => K0.out (hne.out 0 (by decide) e), fun e => K1.out (hne.out 1 (by decide) e), fun e => K2.out (hne.out 2 (by decide) e), fun e => K3.out (hne.out 3 (by decide) e), fun e => K4.out (hne.out 4 (by decide) e), fun e => K5.out (hne.out 5 (by decide) e), fun e => K6.out (hne.out 6 (by decide) e), fun _ => rfl, fun e => K8.out (hne.out 8 (by decide) e), fun e => K9.out (hne.out 9 (by decide) e), fun e => K10.out (hne.out 10 (by decide) e), fun e => K11.out (hne.out 11 (by decide) e), fun e => K12.out (hne.out 12 (by decide) e), fun e => K13.out (hne.out 13 (by decide) e), fun e => K14.out (hne.out 14 (by decide) e), fun e => K15.out (hne.out 15 (by decide) e), fun e => K16.out (hne.out 16 (by decide) e), fun e => K17.out (hne.out 17 (by decide) e), fun e => K18.out (hne.out 18 (by decide) e), fun e => K19.out (hne.out 19 (by decide) e), hB⟩
            · cases ho
              have d7 := hd ⟨7, .data⟩ (by simp) rfl
              obtain rfl := K7.out d7
              refine wpOp_step rfl (fun K hK => ?_)
              go_simp
              refine hK _ _ ⟨by simpa using hz, v25, v26, v27, v28, v29, v30, v31, .pointer (some ⟨G, 0, none⟩), .pointer (some ⟨G, 17, none⟩), v34, v35, v36, v37, v38, v39, v40, v41, v42, v43, v44, rfl, ?_⟩
              exact ⟨fun e => K0.out (hne.out 0 (by decide) e), fun e => K1.out (hne.out 1 (by decide) e), fun e => K2.out (hne.out 2 (by decide) e), fun e => K3.out (hne.out 3 (by decide) e), fun e => K4.out (hne.out 4 (by decide) e), fun e => K5.out (hne.out 5 (by decide) e), fun e => K6.out (hne.out 6 (by decide) e), fun e => K7.out (hne.out 7 (by decide) e), fun _ => rfl, fun e => K9.out (hne.out 9 (by decide) e), fun e => K10.out (hne.out 10 (by decide) e), fun e => K11.out (hne.out 11 (by decide) e), fun e => K12.out (hne.out 12 (by decide) e), fun e => K13.out (hne.out 13 (by decide) e), fun e => K14.out (hne.out 14 (by decide) e), fun e => K15.out (hne.out 15 (by decide) e), fun e => K16.out (hne.out 16 (by decide) e), fun e => K17.out (hne.out 17 (by decide) e), fun e => K18.out (hne.out 18 (by decide) e), fun e => K19.out (hne.out 19 (by decide) e), hB⟩
            · cases ho
              have d8 := hd ⟨8, .data⟩ (by simp) rfl
              have d5 := hd ⟨5, .data⟩ (by simp) rfl
              obtain rfl := K8.out d8
              obtain rfl := K5.out d5
              refine wpOp_step rfl (fun K hK => ?_)
              go_simp
              refine hK _ _ ⟨by simpa using hz, v25, v26, v27, v28, v29, .int .i64 ↑u, v31, v32, .pointer (some ⟨G, 17, none⟩), .pointer (some ⟨G, 17 + u * 8, none⟩), v35, v36, v37, v38, v39, v40, v41, v42, v43, v44, rfl, ?_⟩
              exact ⟨fun e => K0.out (hne.out 0 (by decide) e), fun e => K1.out (hne.out 1 (by decide) e), fun e => K2.out (hne.out 2 (by decide) e), fun e => K3.out (hne.out 3 (by decide) e), fun e => K4.out (hne.out 4 (by decide) e), fun e => K5.out (hne.out 5 (by decide) e), fun e => K6.out (hne.out 6 (by decide) e), fun e => K7.out (hne.out 7 (by decide) e), fun e => K8.out (hne.out 8 (by decide) e), fun _ => rfl, fun e => K10.out (hne.out 10 (by decide) e), fun e => K11.out (hne.out 11 (by decide) e), fun e => K12.out (hne.out 12 (by decide) e), fun e => K13.out (hne.out 13 (by decide) e), fun e => K14.out (hne.out 14 (by decide) e), fun e => K15.out (hne.out 15 (by decide) e), fun e => K16.out (hne.out 16 (by decide) e), fun e => K17.out (hne.out 17 (by decide) e), fun e => K18.out (hne.out 18 (by decide) e), fun e => K19.out (hne.out 19 (by decide) e), hB⟩
            · cases ho
              have d9 := hd ⟨9, .data⟩ (by simp) rfl
              have d6 := hd ⟨6, .data⟩ (by simp) rfl
              obtain rfl := K9.out d9
              obtain rfl := K6.out d6
              refine wpOp_step rfl (fun K hK => ?_)
              go_simp
              refine hK _ _ ⟨by simpa using hz, v25, v26, v27, v28, v29, v30, .int .i64 ↑t, v32, v33, .pointer (some ⟨G, 17 + u * 8, none⟩), .pointer (some ⟨G, 17 + u * 8 + t * 2, none⟩), v36, v37, v38, v39, v40, v41, v42, v43, v44, rfl, ?_⟩
              exact ⟨fun e => K0.out (hne.out 0 (by decide) e), fun e => K1.out (hne.out 1 (by decide) e), fun e => K2.out (hne.out 2 (by decide) e), fun e => K3.out (hne.out 3 (by decide) e), fun e => K4.out (hne.out 4 (by decide) e), fun e => K5.out (hne.out 5 (by decide) e), fun e => K6.out (hne.out 6 (by decide) e), fun e => K7.out (hne.out 7 (by decide) e), fun e => K8.out (hne.out 8 (by decide) e), fun e => K9.out (hne.out 9 (by decide) e), fun _ => rfl, fun e => K11.out (hne.out 11 (by decide) e), fun e => K12.out (hne.out 12 (by decide) e), fun e => K13.out (hne.out 13 (by decide) e), fun e => K14.out (hne.out 14 (by decide) e), fun e => K15.out (hne.out 15 (by decide) e), fun e => K16.out (hne.out 16 (by decide) e), fun e => K17.out (hne.out 17 (by decide) e), fun e => K18.out (hne.out 18 (by decide) e), fun e => K19.out (hne.out 19 (by decide) e), hB⟩
            · cases ho
              have d10 := hd ⟨10, .data⟩ (by simp) rfl
              obtain rfl := K10.out d10
              have hca := (Has.cell hFx _).trans hbt1.out
              have hcb := (Has.cell hFx _).trans hbt2.out
              refine wpOp_step rfl (fun K hK => ?_)
              go_simp
              refine hK _ _ ⟨by simpa using hz, v25, v26, v27, v28, v29, v30, v31, v32, v33, v34, .pointer (some ⟨G, 17 + u * 8 + t * 2, none⟩), .agg #[.slice A1 n1 c1, .slice A2 n2 c2], v37, v38, v39, v40, v41, v42, v43, v44, rfl, ?_⟩
              exact ⟨fun e => K0.out (hne.out 0 (by decide) e), fun e => K1.out (hne.out 1 (by decide) e), fun e => K2.out (hne.out 2 (by decide) e), fun e => K3.out (hne.out 3 (by decide) e), fun e => K4.out (hne.out 4 (by decide) e), fun e => K5.out (hne.out 5 (by decide) e), fun e => K6.out (hne.out 6 (by decide) e), fun e => K7.out (hne.out 7 (by decide) e), fun e => K8.out (hne.out 8 (by decide) e), fun e => K9.out (hne.out 9 (by decide) e), fun e => K10.out (hne.out 10 (by decide) e), fun _ => rfl, fun e => K12.out (hne.out 12 (by decide) e), fun e => K13.out (hne.out 13 (by decide) e), fun e => K14.out (hne.out 14 (by decide) e), fun e => K15.out (hne.out 15 (by decide) e), fun e => K16.out (hne.out 16 (by decide) e), fun e => K17.out (hne.out 17 (by decide) e), fun e => K18.out (hne.out 18 (by decide) e), fun e => K19.out (hne.out 19 (by decide) e), hB⟩
            · cases ho
              refine wpOp_step rfl (fun K hK => ?_)
              go_simp
              refine hK _ _ ⟨by simpa using hz, v25, v26, v27, v28, v29, v30, v31, v32, v33, v34, v35, v36, .int .i64 S1, v38, v39, v40, v41, v42, v43, v44, rfl, ?_⟩
              exact ⟨fun e => K0.out (hne.out 0 (by decide) e), fun e => K1.out (hne.out 1 (by decide) e), fun e => K2.out (hne.out 2 (by decide) e), fun e => K3.out (hne.out 3 (by decide) e), fun e => K4.out (hne.out 4 (by decide) e), fun e => K5.out (hne.out 5 (by decide) e), fun e => K6.out (hne.out 6 (by decide) e), fun e => K7.out (hne.out 7 (by decide) e), fun e => K8.out (hne.out 8 (by decide) e), fun e => K9.out (hne.out 9 (by decide) e), fun e => K10.out (hne.out 10 (by decide) e), fun e => K11.out (hne.out 11 (by decide) e), fun _ => rfl, fun e => K13.out (hne.out 13 (by decide) e), fun e => K14.out (hne.out 14 (by decide) e), fun e => K15.out (hne.out 15 (by decide) e), fun e => K16.out (hne.out 16 (by decide) e), fun e => K17.out (hne.out 17 (by decide) e), fun e => K18.out (hne.out 18 (by decide) e), fun e => K19.out (hne.out 19 (by decide) e), hB⟩
            · cases ho
              refine wpOp_step rfl (fun K hK => ?_)
              go_simp
              refine hK _ _ ⟨by simpa using hz, v25, v26, v27, v28, v29, v30, v31, v32, v33, v34, v35, v36, v37, .int .i64 ↑t, v39, v40, v41, v42, v43, v44, rfl, ?_⟩
              exact ⟨fun e => K0.out (hne.out 0 (by decide) e), fun e => K1.out (hne.out 1 (by decide) e), fun e => K2.out (hne.out 2 (by decide) e), fun e => K3.out (hne.out 3 (by decide) e), fun e => K4.out (hne.out 4 (by decide) e), fun e => K5.out (hne.out 5 (by decide) e), fun e => K6.out (hne.out 6 (by decide) e), fun e => K7.out (hne.out 7 (by decide) e), fun e => K8.out (hne.out 8 (by decide) e), fun e => K9.out (hne.out 9 (by decide) e), fun e => K10.out (hne.out 10 (by decide) e), fun e => K11.out (hne.out 11 (by decide) e), fun e => K12.out (hne.out 12 (by decide) e), fun _ => rfl, fun e => K14.out (hne.out 14 (by decide) e), fun e => K15.out (hne.out 15 (by decide) e), fun e => K16.out (hne.out 16 (by decide) e), fun e => K17.out (hne.out 17 (by decide) e), fun e => K18.out (hne.out 18 (by decide) e), fun e => K19.out (hne.out 19 (by decide) e), hB⟩
            · cases ho
              refine wpOp_step rfl (fun K hK => ?_)
              go_simp
              refine hK _ _ ⟨by simpa using hz, v25, v26, v27, v28, v29, v30, v31, v32, v33, v34, v35, v36, v37, v38, .int .i64 ↑j, v40, v41, v42, v43, v44, rfl, ?_⟩
              exact ⟨fun e => K0.out (hne.out 0 (by decide) e), fun e => K1.out (hne.out 1 (by decide) e), fun e => K2.out (hne.out 2 (by decide) e), fun e => K3.out (hne.out 3 (by decide) e), fun e => K4.out (hne.out 4 (by decide) e), fun e => K5.out (hne.out 5 (by decide) e), fun e => K6.out (hne.out 6 (by decide) e), fun e => K7.out (hne.out 7 (by decide) e), fun e => K8.out (hne.out 8 (by decide) e), fun e => K9.out (hne.out 9 (by decide) e), fun e => K10.out (hne.out 10 (by decide) e), fun e => K11.out (hne.out 11 (by decide) e), fun e => K12.out (hne.out 12 (by decide) e), fun e => K13.out (hne.out 13 (by decide) e), fun _ => rfl, fun e => K15.out (hne.out 15 (by decide) e), fun e => K16.out (hne.out 16 (by decide) e), fun e => K17.out (hne.out 17 (by decide) e), fun e => K18.out (hne.out 18 (by decide) e), fun e => K19.out (hne.out 19 (by decide) e), hB⟩
            · cases ho
              have d12 := hd ⟨12, .data⟩ (by simp) rfl
              have d13 := hd ⟨13, .data⟩ (by simp) rfl
              have d14 := hd ⟨14, .data⟩ (by simp) rfl
              obtain rfl := K12.out d12
              obtain rfl := K13.out d13
              obtain rfl := K14.out d14
              refine wpOp_step rfl (fun K hK => ?_)
              go_simp
              go_at_call 49
              refine (cW2.out _).mono ?_
              rintro e w3 ⟨rfl, rfl⟩
              refine hK _ _ ⟨by simpa using hz, v25, v26, v27, v28, v29, v30, v31, v32, v33, v34, v35, v36, .int .i64 S1, .int .i64 ↑t, .int .i64 ↑j, .int .i64 s2, v41, v42, v43, v44, rfl, ?_⟩
              exact ⟨fun e => K0.out (hne.out 0 (by decide) e), fun e => K1.out (hne.out 1 (by decide) e), fun e => K2.out (hne.out 2 (by decide) e), fun e => K3.out (hne.out 3 (by decide) e), fun e => K4.out (hne.out 4 (by decide) e), fun e => K5.out (hne.out 5 (by decide) e), fun e => K6.out (hne.out 6 (by decide) e), fun e => K7.out (hne.out 7 (by decide) e), fun e => K8.out (hne.out 8 (by decide) e), fun e => K9.out (hne.out 9 (by decide) e), fun e => K10.out (hne.out 10 (by decide) e), fun e => K11.out (hne.out 11 (by decide) e), fun e => K12.out (hne.out 12 (by decide) e), fun e => K13.out (hne.out 13 (by decide) e), fun e => K14.out (hne.out 14 (by decide) e), fun _ => rfl, fun e => K16.out (hne.out 16 (by decide) e), fun e => K17.out (hne.out 17 (by decide) e), fun e => K18.out (hne.out 18 (by decide) e), fun e => K19.out (hne.out 19 (by decide) e), hB⟩
            · cases ho
              have d11 := hd ⟨11, .data⟩ (by simp) rfl
              have d15 := hd ⟨15, .data⟩ (by simp) rfl
              obtain rfl := K11.out d11
              obtain rfl := K15.out d15
              refine wpOp_step rfl (fun K hK => ?_)
              go_simp
              go_at_call 100
              refine (cI.out _ hNx).mono ?_
              rintro e w3 ⟨rfl, hb3⟩
              refine hK _ _ ⟨by simpa using hz, v25, v26, v27, v28, v29, v30, v31, v32, v33, v34, v35, .agg #[.slice A1 n1 c1, .slice A2 n2 c2], v37, v38, v39, .int .i64 s2, .int .i64 z, v42, v43, v44, rfl, ?_⟩
              exact ⟨fun e => K0.out (hne.out 0 (by decide) e), fun e => K1.out (hne.out 1 (by decide) e), fun e => K2.out (hne.out 2 (by decide) e), fun e => K3.out (hne.out 3 (by decide) e), fun e => K4.out (hne.out 4 (by decide) e), fun e => K5.out (hne.out 5 (by decide) e), fun e => K6.out (hne.out 6 (by decide) e), fun e => K7.out (hne.out 7 (by decide) e), fun e => K8.out (hne.out 8 (by decide) e), fun e => K9.out (hne.out 9 (by decide) e), fun e => K10.out (hne.out 10 (by decide) e), fun e => K11.out (hne.out 11 (by decide) e), fun e => K12.out (hne.out 12 (by decide) e), fun e => K13.out (hne.out 13 (by decide) e), fun e => K14.out (hne.out 14 (by decide) e), fun e => K15.out (hne.out 15 (by decide) e), fun _ => rfl, fun e => K17.out (hne.out 17 (by decide) e), fun e => K18.out (hne.out 18 (by decide) e), fun e => K19.out (hne.out 19 (by decide) e), hB.trans (hb3.mono hB.size)⟩
            · cases ho
              have d3 := hd ⟨3, .data⟩ (by simp) rfl
              have d16 := hd ⟨16, .data⟩ (by simp) rfl
              obtain rfl := K3.out d3
              obtain rfl := K16.out d16
              refine wpOp_step rfl (fun K hK => ?_)
              go_simp
              refine hK _ _ ⟨by simpa using hz, v25, v26, v27, .int .i64 kx, v29, v30, v31, v32, v33, v34, v35, v36, v37, v38, v39, v40, .int .i64 z, .int .i64 (IntKind.i64.wrap (kx * z)), v43, v44, rfl, ?_⟩
              exact ⟨fun e => K0.out (hne.out 0 (by decide) e), fun e => K1.out (hne.out 1 (by decide) e), fun e => K2.out (hne.out 2 (by decide) e), fun e => K3.out (hne.out 3 (by decide) e), fun e => K4.out (hne.out 4 (by decide) e), fun e => K5.out (hne.out 5 (by decide) e), fun e => K6.out (hne.out 6 (by decide) e), fun e => K7.out (hne.out 7 (by decide) e), fun e => K8.out (hne.out 8 (by decide) e), fun e => K9.out (hne.out 9 (by decide) e), fun e => K10.out (hne.out 10 (by decide) e), fun e => K11.out (hne.out 11 (by decide) e), fun e => K12.out (hne.out 12 (by decide) e), fun e => K13.out (hne.out 13 (by decide) e), fun e => K14.out (hne.out 14 (by decide) e), fun e => K15.out (hne.out 15 (by decide) e), fun e => K16.out (hne.out 16 (by decide) e), fun _ => rfl, fun e => K18.out (hne.out 18 (by decide) e), fun e => K19.out (hne.out 19 (by decide) e), hB⟩
            · cases ho
              have d2 := hd ⟨2, .data⟩ (by simp) rfl
              have d17 := hd ⟨17, .data⟩ (by simp) rfl
              obtain rfl := K2.out d2
              obtain rfl := K17.out d17
              refine wpOp_step rfl (fun K hK => ?_)
              go_simp
              refine hK _ _ ⟨by simpa using hz, v25, v26, .int .i64 mp, v28, v29, v30, v31, v32, v33, v34, v35, v36, v37, v38, v39, v40, v41, .int .i64 (IntKind.i64.wrap (kx * z)), .int .i64 mn, v44, rfl, ?_⟩
              exact ⟨fun e => K0.out (hne.out 0 (by decide) e), fun e => K1.out (hne.out 1 (by decide) e), fun e => K2.out (hne.out 2 (by decide) e), fun e => K3.out (hne.out 3 (by decide) e), fun e => K4.out (hne.out 4 (by decide) e), fun e => K5.out (hne.out 5 (by decide) e), fun e => K6.out (hne.out 6 (by decide) e), fun e => K7.out (hne.out 7 (by decide) e), fun e => K8.out (hne.out 8 (by decide) e), fun e => K9.out (hne.out 9 (by decide) e), fun e => K10.out (hne.out 10 (by decide) e), fun e => K11.out (hne.out 11 (by decide) e), fun e => K12.out (hne.out 12 (by decide) e), fun e => K13.out (hne.out 13 (by decide) e), fun e => K14.out (hne.out 14 (by decide) e), fun e => K15.out (hne.out 15 (by decide) e), fun e => K16.out (hne.out 16 (by decide) e), fun e => K17.out (hne.out 17 (by decide) e), fun _ => rfl, fun e => K19.out (hne.out 19 (by decide) e), hB⟩
            · cases ho
              have d0 := hd ⟨0, .data⟩ (by simp) rfl
              obtain rfl := K0.out d0
              refine wpOp_step rfl (fun K hK => ?_)
              go_simp
              refine hK _ _ ⟨by simpa using hz, .int .i64 ↑j, v26, v27, v28, v29, v30, v31, v32, v33, v34, v35, v36, v37, v38, v39, v40, v41, v42, v43, .pointer (some ⟨M, j, none⟩), rfl, ?_⟩
              exact ⟨fun e => K0.out (hne.out 0 (by decide) e), fun e => K1.out (hne.out 1 (by decide) e), fun e => K2.out (hne.out 2 (by decide) e), fun e => K3.out (hne.out 3 (by decide) e), fun e => K4.out (hne.out 4 (by decide) e), fun e => K5.out (hne.out 5 (by decide) e), fun e => K6.out (hne.out 6 (by decide) e), fun e => K7.out (hne.out 7 (by decide) e), fun e => K8.out (hne.out 8 (by decide) e), fun e => K9.out (hne.out 9 (by decide) e), fun e => K10.out (hne.out 10 (by decide) e), fun e => K11.out (hne.out 11 (by decide) e), fun e => K12.out (hne.out 12 (by decide) e), fun e => K13.out (hne.out 13 (by decide) e), fun e => K14.out (hne.out 14 (by decide) e), fun e => K15.out (hne.out 15 (by decide) e), fun e => K16.out (hne.out 16 (by decide) e), fun e => K17.out (hne.out 17 (by decide) e), fun e => K18.out (hne.out 18 (by decide) e), fun _ => rfl, hB⟩
          case hl =>
            rintro listed aq wx ⟨hz, v25, v26, v27, v28, v29, v30, v31, v32, v33, v34, v35, v36, v37, v38, v39, v40, v41, v42, v43, v44, rfl, hII⟩ hall
            have K0 := Lib.hid hII.1
            have K1 := Lib.hid hII.2.1
            have K2 := Lib.hid hII.2.2.1
            have K3 := Lib.hid hII.2.2.2.1
            have K4 := Lib.hid hII.2.2.2.2.1
            have K5 := Lib.hid hII.2.2.2.2.2.1
            have K6 := Lib.hid hII.2.2.2.2.2.2.1
            have K7 := Lib.hid hII.2.2.2.2.2.2.2.1
            have K8 := Lib.hid hII.2.2.2.2.2.2.2.2.1
            have K9 := Lib.hid hII.2.2.2.2.2.2.2.2.2.1
            have K10 := Lib.hid hII.2.2.2.2.2.2.2.2.2.2.1
            have K11 := Lib.hid hII.2.2.2.2.2.2.2.2.2.2.2.1
            have K12 := Lib.hid hII.2.2.2.2.2.2.2.2.2.2.2.2.1
            have K13 := Lib.hid hII.2.2.2.2.2.2.2.2.2.2.2.2.2.1
            have K14 := Lib.hid hII.2.2.2.2.2.2.2.2.2.2.2.2.2.2.1
            have K15 := Lib.hid hII.2.2.2.2.2.2.2.2.2.2.2.2.2.2.2.1
            have K16 := Lib.hid hII.2.2.2.2.2.2.2.2.2.2.2.2.2.2.2.2.1
            have K17 := Lib.hid hII.2.2.2.2.2.2.2.2.2.2.2.2.2.2.2.2.2.1
            have K18 := Lib.hid hII.2.2.2.2.2.2.2.2.2.2.2.2.2.2.2.2.2.2.1
            have K19 := Lib.hid hII.2.2.2.2.2.2.2.2.2.2.2.2.2.2.2.2.2.2.2.1
            have hB : Below wr.heap.size wr wx := hII.2.2.2.2.2.2.2.2.2.2.2.2.2.2.2.2.2.2.2.2
            have hFx : FoW wx G f := hFk.out.kept hB
            have hXx : Has wx M _ _ := hXk.out.kept hB
            have hNx : FacW wx wx.heap.size A1 n1 A2 n2 (btw Fs u t) := ((hFWk.out.keep_ (hB.mono hzB)).more (Nat.le_trans hzB hB.size))
            clear hII
            obtain rfl := K0.out (hall 0 (by decide))
            obtain rfl := K1.out (hall 1 (by decide))
            obtain rfl := K2.out (hall 2 (by decide))
            obtain rfl := K3.out (hall 3 (by decide))
            obtain rfl := K4.out (hall 4 (by decide))
            obtain rfl := K5.out (hall 5 (by decide))
            obtain rfl := K6.out (hall 6 (by decide))
            obtain rfl := K7.out (hall 7 (by decide))
            obtain rfl := K8.out (hall 8 (by decide))
            obtain rfl := K9.out (hall 9 (by decide))
            obtain rfl := K10.out (hall 10 (by decide))
            obtain rfl := K11.out (hall 11 (by decide))
            obtain rfl := K12.out (hall 12 (by decide))
            obtain rfl := K13.out (hall 13 (by decide))
            obtain rfl := K14.out (hall 14 (by decide))
            obtain rfl := K15.out (hall 15 (by decide))
            obtain rfl := K16.out (hall 16 (by decide))
            obtain rfl := K17.out (hall 17 (by decide))
            obtain rfl := K18.out (hall 18 (by decide))
            obtain rfl := K19.out (hall 19 (by decide))
            clear hall K0 K1 K2 K3 K4 K5 K6 K7 K8 K9 K10 K11 K12 K13 K14 K15 K16 K17 K18 K19
            have hcc := (Has.cell hXx j).trans hcm.out
            have hff := Has.frozen hXx j
            refine wpOp_step rfl (fun K0 hK0 => ?_)
            go_simp
            refine hK0 _ _ ?_
            clear hK0
            have hN := Lib.hid (show Has (wx.setCell ⟨M, j, none⟩ (.int .i64 mn)) M 45 (A3 (midK Mp Mn (j + 1))) from by
              rw [← midK_step, hmnh.out, ← A3_put _ (by omega)]
              exact Has.put hXx j _)
            have hFn := Lib.hid (show FoW (wx.setCell ⟨M, j, none⟩ (.int .i64 mn)) G f from Has.far hFx (show G ≠ M by omega) _)
            have hBn := Lib.hid (((hBk.out.trans (hB.mono hzM)).setCell (p := ⟨M, j, none⟩) (Nat.le_refl M) (.int .i64 mn)))
            have hWn := Lib.hid ((hFWk.out.keep_ (hB.mono hzB)).keep_ ((Below.refl B wx).setCell (p := ⟨M, j, none⟩) hBM (.int .i64 mn)))
            clear hFx hXx hNx hcc hff hB
            go_wp2_with fail
            go_roundg (3 - (j + 1))
            case measure => omega
            case rel => exact ⟨j + 1, by omega, rfl, by go_num, hFn.out, hN.out, hBn.out, hWn.out⟩
        · obtain rfl : j = 3 := by omega
          have hPe := Lib.hid (show Has wr M 45 (A3 (fun y => IntKind.i64.wrap (msum Fs g u t y (x0 + 1)))) from by
            rw [hMnh.out, ← A3_congr (p := midK Mp Mn 3) (q := Mn) (fun x hx => by unfold midK; rw [if_pos (by omega)])]
            exact hXk.out)
          go_wp2_with fail
          go_roundg (3 - (x0 + 1))
          case measure => omega
          case rel => exact ⟨x0 + 1, by omega, rfl, by go_num, hFk.out, hPe.out, hBk.out, hFWk.out⟩
    · obtain rfl : x = 3 := by omega
      have hE := Lib.hid (A3_congr (p := fun y => IntKind.i64.wrap (msum Fs g u t y 3)) (q := fun y => IntKind.i64.wrap (msgT Fs g u t y)) (fun y _ => by rw [hms.out y]))
      rw [hE.out] at hXh
      obtain ⟨q, hqq⟩ : ∃ q : Nat → Int, (fun y => IntKind.i64.wrap (msgT Fs g u t y)) = q := ⟨_, rfl⟩
      rw [hqq] at hXh
      have hq0 := Lib.hid (congrFun hqq 0 : IntKind.i64.wrap (msgT Fs g u t 0) = q 0)
      have hq1 := Lib.hid (congrFun hqq 1 : IntKind.i64.wrap (msgT Fs g u t 1) = q 1)
      have hq2 := Lib.hid (congrFun hqq 2 : IntKind.i64.wrap (msgT Fs g u t 2) = q 2)
      have p0 := (Has.cell hXh.out 0).trans (A3_at q (by decide))
      have p1 := (Has.cell hXh.out 1).trans (A3_at q (by decide))
      have p2 := (Has.cell hXh.out 2).trans (A3_at q (by decide))
      have t0 := hFh.out.told_cell (u := u) (t := t) (y := 0) hu ht (by decide) (i := 49 + u * 12 + t * 3) rfl
      have t1 := hFh.out.told_cell (u := u) (t := t) (y := 1) hu ht (by decide) (i := 49 + u * 12 + t * 3 + 1) rfl
      have t2 := hFh.out.told_cell (u := u) (t := t) (y := 2) hu ht (by decide) (i := 49 + u * 12 + t * 3 + 2) rfl
      have tf := Has.frozen hFh.out
      have hN := Lib.hid (((hFh.out.told_set (u := u) (t := t) (y := 0) hu ht (by decide) (i := 49 + u * 12 + t * 3) rfl (q 0)).told_set (u := u) (t := t) (y := 1) hu ht (by decide) (i := 49 + u * 12 + t * 3 + 1) rfl (q 1)).told_set (u := u) (t := t) (y := 2) hu ht (by decide) (i := 49 + u * 12 + t * 3 + 2) rfl (q 2))
      have hK := Lib.hid (((((KeptBut.of_below (by rw [hMh.out]; exact hBh.out) (fun i => i = G)).put (p := ⟨G, 49 + u * 12 + t * 3, none⟩) (fun _ => rfl) (.int .i64 (q 0))).put (p := ⟨G, 49 + u * 12 + t * 3 + 1, none⟩) (fun _ => rfl) (.int .i64 (q 1))).put (p := ⟨G, 49 + u * 12 + t * 3 + 2, none⟩) (fun _ => rfl) (.int .i64 (q 2))))
      clear hqq
      go_wp2_with fail
      go_still_tail 8, (by kernel_rfl)
      repeat still_step
      try (refine wpStill_nil ?_)
      try (change wpList _ _ _ _ _ (World.drew _))
      go_wp2_with fail
      go_end0
      refine ⟨rfl, hK.out.trans (KeptBut.of_below (Below.refl _ _).drew (fun i => i = G)) (fun _ _ h => h), ?_⟩
      rw [hq0.out, hq1.out, hq2.out]
      exact hN.out
end Go.Proofs.Ytghkpmafocacoaa
