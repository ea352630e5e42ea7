/- Parts of the proof: L8. -/
import Derived.Test.YtghkpmafocacoaaZAT
namespace Go.Proofs.Ytghkpmafocacoaa
set_option maxRecDepth 100000
set_option linter.unusedVariables false
open Go.RowKit
/-- Three numbers. -/
def A3 (p : Nat → Int) : Array Value := #[.int .i64 (p 0), .int .i64 (p 1), .int .i64 (p 2)]
theorem A3_at (p : Nat → Int) {j : Nat} (hj : j ≤ 2) : (A3 p)[j]? = some (.int .i64 (p j)) := by
  obtain rfl | rfl | rfl : j = 0 ∨ j = 1 ∨ j = 2 := by omega
  all_goals rfl
theorem A3_put (p : Nat → Int) {j : Nat} (hj : j ≤ 2) (n : Int) : (A3 p).setIfInBounds j (.int .i64 n) = A3 (fun x => if x = j then n else p x) := by
  obtain rfl | rfl | rfl : j = 0 ∨ j = 1 ∨ j = 2 := by omega
  all_goals rfl
theorem A3_congr {p q : Nat → Int} (h : ∀ x, x ≤ 2 → p x = q x) : A3 p = A3 q := by
  unfold A3
  rw [h 0 (by decide), h 1 (by decide), h 2 (by decide)]
theorem index_arr3 {sn : Array Value} {u : Value} {q : Nat} (h : sn[q]? = some u) (hq : q < 3) (w : World) : (Instr.index 45 (.agg sn) (.int .i64 q)).run Try.prog w = .ok u w := by
  have hu := Try.underlying45
  have hc : (0 : Int) ≤ (q : Int) ∧ (q : Int) < 3 := by omega
  simp [Instr.index, run_underlying hu, asIntOf, go_sem, part, h, hc]
  intro h9
  omega
theorem index_A3 (p : Nat → Int) {q : Nat} (hq : q < 3) (w : World) : (Instr.index 45 (.agg #[.int .i64 (p 0), .int .i64 (p 1), .int .i64 (p 2)]) (.int .i64 q)).run Try.prog w = .ok (.int .i64 (p q)) w := index_arr3 (A3_at p (by omega)) hq w
def midK (p q : Nat → Int) (j : Nat) : Nat → Int := fun x => if x < j then q x else p x
theorem midK_step (p q : Nat → Int) {j : Nat} : (fun x => if x = j then q j else midK p q j x) = midK p q (j + 1) := by
  funext x
  unfold midK
  by_cases h : x = j
  · subst h
    rw [if_pos rfl, if_pos (by omega)]
  · rw [if_neg h]
    by_cases h2 : x < j
    · rw [if_pos h2, if_pos (by omega)]
    · rw [if_neg h2, if_neg (by omega)]
set_option maxHeartbeats 2000000 in
theorem known_any (B G : Nat) (f : Fo) (g : Gr) (Fs : List Fac) (v : Nat) (but : Int) (bt : Nat) (w : World) (h : FoW w G f) (hf : Frs w B Fs g f) (hv : v ≤ 3) (hbt : bt ≤ 4) (hb : bitN but = if bt ≤ 3 then bitN (bt : Int) else 0) (hown : ∀ v x, 0 ≤ ownL Fs v x ∧ ownL Fs v x ≤ 43046721) (hT : ∀ u ∈ nbs g v bt, ∀ x, x ≤ 2 → f.told u v x = IntKind.i64.wrap (msgT Fs g u v x)) :
    Calls Try.prog 98 #[.pointer (some ⟨G, 0, none⟩), .int .i64 (v : Int), .int .i64 but] w fun e w' => e = .returned (.agg (A3 fun x => IntKind.i64.wrap (allT Fs g v bt x))) ∧ Below w.heap.size w w' := by
  have hfh := Lib.hid hf
  have hwo : ∀ x, IntKind.i64.wrap (ownL Fs v x) = ownL Fs v x := fun x => by have := hown v x; rw [IntKind.wrap_i64]; omega
  have hp0 := Lib.hid (A3_congr (p := fun x => f.own v x) (q := fun x => IntKind.i64.wrap (allP Fs g v bt x 0)) (fun x hx => by rw [allP_zero, hwo, hf.own v x hv hx]))
  have hov := Lib.hid (nbs_over g hv bt hbt)
  have hnb := (nbs_over g hv bt hbt).2
  have hTh := Lib.hid hT
  have hv0 : (0 : Int) ≤ (v : Int) := by omega
  have hv4 : (v : Int) < 4 := by omega
  have hnxI : nxI g (v : Int) = (g.nx v : Int) := by unfold nxI; rw [if_pos (inB_iff.2 (by omega)), Int.toNat_natCast]
  have hnx := (prs_row g ⟨v, by omega⟩).2.2.1
  simp only at hnx
  have cN := Lib.hid (fun wx hx => nextTo_any G f g (v : Int) wx hx hf.prs)
  have cB := Lib.hid (fun wx => bitOf_any but wx)
  rw [hnxI] at cN
  rw [hb] at cB
  have hb15 : 0 ≤ (if bt ≤ 3 then bitN (bt : Int) else 0) ∧ (if bt ≤ 3 then bitN (bt : Int) else 0) ≤ 15 := by
    split
    · have := bitN_bd (bt : Int); omega
    · decide
  have hdf := bits_diff (a := (g.nx v : Int)) (by omega) hb15
  have hbd15 : 0 ≤ bdf (g.nx v : Int) (if bt ≤ 3 then bitN (bt : Int) else 0) ∧ bdf (g.nx v : Int) (if bt ≤ 3 then bitN (bt : Int) else 0) ≤ 15 := by
    obtain ⟨a, ha⟩ := fin16 (L := (g.nx v : Int)) (by omega)
    obtain ⟨b, hb⟩ := fin16 hb15
    rw [ha, hb]
    have hall : ∀ a b : Fin 16, 0 ≤ bdf (a.val : Int) (b.val : Int) ∧ bdf (a.val : Int) (b.val : Int) ≤ 15 := by decide +kernel
    exact hall a b
  have cV := Lib.hid (fun wx => varsIn_any _ wx hbd15)
  rw [← (nbs_over g hv bt hbt).1] at cV
  have hall := Lib.hid (fun x => allP_all Fs g v bt x)
  generalize (if bt ≤ 3 then bitN (bt : Int) else 0) = bb at cB hdf cV hov hb15 hbd15
  have hG := Has.lt h
  have o0 := h.own_cell (v := v) (x := 0) hv (by decide) (i := v * 3) rfl
  have o1 := h.own_cell (v := v) (x := 1) hv (by decide) (i := v * 3 + 1) rfl
  have o2 := h.own_cell (v := v) (x := 2) hv (by decide) (i := v * 3 + 2) rfl
  obtain ⟨z0, hz0⟩ : ∃ z, f.own v 0 = z := ⟨_, rfl⟩
  obtain ⟨z1, hz1⟩ : ∃ z, f.own v 1 = z := ⟨_, rfl⟩
  obtain ⟨z2, hz2⟩ : ∃ z, f.own v 2 = z := ⟨_, rfl⟩
  have hA0 := Lib.hid (show (#[.int .i64 z0, .int .i64 z1, .int .i64 z2] : Array Value) = A3 (fun x => IntKind.i64.wrap (allP Fs g v bt x 0)) from by rw [← hp0.out, ← hz0, ← hz1, ← hz2]; rfl)
  rw [hz0] at o0
  rw [hz1] at o1
  rw [hz2] at o2
  have hW := Lib.hid ((h.alloc (.cells #[.int .i64 0, .int .i64 0, .int .i64 0] 45)).alloc (.cells #[.int .i64 z0, .int .i64 z1, .int .i64 z2] 45))
  have hX0 := Lib.hid ((Has.new w 45 #[.int .i64 0, .int .i64 0, .int .i64 0]).alloc (.cells #[.int .i64 z0, .int .i64 z1, .int .i64 z2] 45))
  have hX1 := Lib.hid (Has.newAt (w := w.alloc (.cells #[.int .i64 0, .int .i64 0, .int .i64 0] 45)) (n := w.heap.size + 1) (t := 45) (cs := #[.int .i64 z0, .int .i64 z1, .int .i64 z2]) (by simp))
  have hB0 := Lib.hid (show Below w.heap.size w ((w.alloc (.cells #[.int .i64 0, .int .i64 0, .int .i64 0] 45)).alloc (.cells #[.int .i64 z0, .int .i64 z1, .int .i64 z2] 45)) from ((Below.refl _ _).alloc (Nat.le_refl _) _).alloc (by simp) _)
  clear h hf hb hown hT hp0 hwo hz0 hz1 hz2 hnxI
  go_enter Try.func98, Try.ntmps98
  go_wp2_with fail
  have hP1 := Lib.hid (show Has _ (w.heap.size + 1) 45 (A3 (fun x => IntKind.i64.wrap (allP Fs g v bt x 0))) from by rw [← hA0.out]; exact hX1.out)
  obtain ⟨P, hP⟩ : ∃ P, w.heap.size + 1 = P := ⟨_, rfl⟩
  obtain ⟨R, hR⟩ : ∃ R, w.heap.size = R := ⟨_, rfl⟩
  rw [hP] at hP1 ⊢
  rw [hR] at hX0 hB0 ⊢
  have hRh := Lib.hid hR
  have hPR : R ≠ P := by omega
  have hPG : G ≠ P := by omega
  have hRG : G < R := by omega
  have hRP : R ≤ P := by omega
  clear hA0 hX1 hP hR o0 o1 o2
  generalize (w.alloc (.cells #[.int .i64 0, .int .i64 0, .int .i64 0] 45)).alloc (.cells #[.int .i64 z0, .int .i64 z1, .int .i64 z2] 45) = W1 at hW hX0 hB0 hP1 ⊢
  refine (cN.out W1 hW.out).mono ?_
  rintro e w' ⟨rfl, rfl⟩
  go_wp2_with fail
  refine (cB.out W1).mono ?_
  rintro e w' ⟨rfl, rfl⟩
  go_wp2_with fail
  refine (cV.out W1).mono ?_
  rintro e W2 ⟨vl, rfl, hl, hb2⟩
  have hW2 := Lib.hid (hW.out.kept hb2)
  have hX2 := Lib.hid (hX0.out.kept hb2)
  have hP2 := Lib.hid (hP1.out.kept hb2)
  have hBs : R ≤ W1.heap.size := by have h1 := hB0.out.size; have h2 := hRh.out; omega
  have hB2 := Lib.hid (hB0.out.trans (hb2.mono hBs))
  obtain ⟨Al, cl, hvl, _, _⟩ := IOwn.form hl
  subst hvl
  have hl2 := Lib.hid (show Ils W2 W2.heap.size Al (nbs g v bt).length ((nbs g v bt).map fun (w : Nat) => (w : Int)) from by have := IOwn.lst hl; rwa [List.length_map] at this)
  have hml : ((nbs g v bt).map fun (w : Nat) => (w : Int)).length = (nbs g v bt).length := List.length_map _
  rw [hml]
  have hPl := Lib.hid (show Ils W2 W2.heap.size Al (nbs g v bt).length ((nbs g v bt).map fun (w : Nat) => (w : Int)) ∧ (∀ a, Al = some a → a.block ≠ P ∧ a.block ≠ R) from ⟨hl2.out, fun a ha => by
    have h1 := World.ownsRow.lt hl a.block (by rw [ha]; rfl)
    have h2 := Has.lt hP1.out
    omega⟩)
  have hm4 := hnb
  generalize hmm : (nbs g v bt).length = m at *
  have hmh := Lib.hid hmm
  clear hl hb2 hW hX0 hP1 hB0 hl2 hml hmm hdf hbd15 hb15
  go_wp2_with fail
  go_loopg [26] m (fun gn i wr => ∃ k : Nat, k ≤ m ∧ gn = m - k ∧ i = .int .i64 k ∧ FoW wr G f ∧ Has wr P 45 (A3 (fun x => IntKind.i64.wrap (allP Fs g v bt x k))) ∧ Has wr R 45 #[.int .i64 0, .int .i64 0, .int .i64 0] ∧ Below R w wr ∧ Ils wr wr.heap.size Al m ((nbs g v bt).map fun (w : Nat) => (w : Int)))
  case atStart => exact ⟨0, Nat.zero_le _, rfl, rfl, hW2.out, hP2.out, hX2.out, hB2.out, hPl.out.1⟩
  case round =>
    obtain ⟨k, hk, hgn, rfl, hF, hPk, hRk, hBk, hIk⟩ := hrel
    have hgk : gk = m - k := hgn
    have hFh := Lib.hid hF
    have hPh := Lib.hid hPk
    have hRk' := Lib.hid hRk
    have hBh := Lib.hid hBk
    have hIh := Lib.hid hIk
    clear hgn hF hPk hRk hBk hIk
    by_cases hlt : k < m
    · obtain ⟨gl, off, d, rfl, hgl, hd, cd⟩ := hIh.out.at_ hlt
      have hk0 : (0 : Int) ≤ (k : Int) := by omega
      have hk1 : (k : Int) < (m : Int) := by omega
      obtain ⟨u, hu, rfl⟩ : ∃ u : Nat, (nbs g v bt)[k]? = some u ∧ d = (u : Int) := by
        rw [List.getElem?_map] at hd
        cases hq : (nbs g v bt)[k]? with
        | none => rw [hq] at hd; cases hd
        | some u => rw [hq] at hd; exact ⟨u, rfl, (Option.some.inj hd).symm⟩
      have hum := nbs_mem (List.mem_of_getElem? hu)
      have hu3 := hum.1
      have hu0 : (0 : Int) ≤ (u : Int) := by omega
      have hu4 : (u : Int) < 4 := by omega
      have hgP := (hPl.out.2 _ rfl).1
      simp only at hgP
      have t0 := (hFh.out.told_cell (u := u) (t := v) (y := 0) hu3 hv (by decide) (i := 49 + u * 12 + v * 3) rfl).trans (by rw [hTh.out u (List.mem_of_getElem? hu) 0 (by decide)])
      have t1 := (hFh.out.told_cell (u := u) (t := v) (y := 1) hu3 hv (by decide) (i := 49 + u * 12 + v * 3 + 1) rfl).trans (by rw [hTh.out u (List.mem_of_getElem? hu) 1 (by decide)])
      have t2 := (hFh.out.told_cell (u := u) (t := v) (y := 2) hu3 hv (by decide) (i := 49 + u * 12 + v * 3 + 2) rfl).trans (by rw [hTh.out u (List.mem_of_getElem? hu) 2 (by decide)])
      have hnext := Lib.hid (fun x => (show IntKind.i64.wrap (IntKind.i64.wrap (allP Fs g v bt x k) * IntKind.i64.wrap (msgT Fs g u v x)) = IntKind.i64.wrap (allP Fs g v bt x (k + 1)) from by rw [wrap_mul, ← allP_succ x hu]))
      obtain ⟨M, hM⟩ : ∃ M : Nat → Int, (fun x => IntKind.i64.wrap (msgT Fs g u v x)) = M := ⟨_, rfl⟩
      obtain ⟨Pk, hPk⟩ : ∃ Pk : Nat → Int, (fun x => IntKind.i64.wrap (allP Fs g v bt x k)) = Pk := ⟨_, rfl⟩
      obtain ⟨Pn, hPn⟩ : ∃ Pn : Nat → Int, (fun x => IntKind.i64.wrap (allP Fs g v bt x (k + 1))) = Pn := ⟨_, rfl⟩
      have hmul := Lib.hid (fun x => (show IntKind.i64.wrap (Pk x * M x) = Pn x from by rw [← hM, ← hPk, ← hPn]; exact hnext.out x))
      rw [show IntKind.i64.wrap (msgT Fs g u v 0) = M 0 from congrFun hM 0] at t0
      rw [show IntKind.i64.wrap (msgT Fs g u v 1) = M 1 from congrFun hM 1] at t1
      rw [show IntKind.i64.wrap (msgT Fs g u v 2) = M 2 from congrFun hM 2] at t2
      rw [hPk] at hPh
      have hPnh := Lib.hid hPn
      have hix := Lib.hid (fun q (hq : q < 3) wx => index_A3 M hq wx)
      clear hnext hM hPk hPn hu hd hum
      go_wp2_with fail
      clear t0 t1 t2 cd
      obtain ⟨k0, rfl⟩ : ∃ x, x = k := ⟨_, rfl⟩
      obtain ⟨w3, rfl⟩ : ∃ x : World, x = wr := ⟨_, rfl⟩
      obtain ⟨g3, rfl⟩ : ∃ x, x = gk := ⟨_, rfl⟩
      go_loopg [38] 3 (fun gn i wr => ∃ j : Nat, j ≤ 3 ∧ gn = 3 - j ∧ i = .int .i64 j ∧ FoW wr G f ∧ Has wr P 45 (A3 (midK Pk Pn j)) ∧ Has wr R 45 #[.int .i64 0, .int .i64 0, .int .i64 0] ∧ Below R w wr ∧ Ils wr wr.heap.size (some ⟨gl, off, none⟩) m ((nbs g v bt).map fun (w : Nat) => (w : Int)))
      case atStart => exact ⟨0, by omega, rfl, rfl, hFh.out, hPh.out, hRk'.out, hBh.out, hIh.out⟩
      case round =>
        obtain ⟨j, hj, hgn, rfl, hF, hPj, hRj, hBj, hIj⟩ := hrel
        have hgj : gk = 3 - j := hgn
        have hFj := Lib.hid hF
        have hPjh := Lib.hid hPj
        have hRjh := Lib.hid hRj
        have hBjh := Lib.hid hBj
        have hIjh := Lib.hid hIj
        clear hgn hF hPj hRj hBj hIj hFh hPh hRk' hBh hIh
        by_cases hlj : j < 3
        · have hj0 : (0 : Int) ≤ (j : Int) := by omega
          have hj3 : (j : Int) < 3 := by omega
          have hi3 := hix.out j hlj
          have hmj : midK Pk Pn j j = Pk j := by unfold midK; rw [if_neg (by omega)]
          have cp := (Has.cell hPjh.out j).trans ((A3_at (midK Pk Pn j) (by omega)).trans (by rw [hmj]))
          have cf := Has.frozen hPjh.out j
          have hml := hmul.out j
          have hN := Lib.hid (show Has (wr.setCell ⟨P, j, none⟩ (.int .i64 (Pn j))) P 45 (A3 (midK Pk Pn (j + 1))) from by rw [← midK_step, ← A3_put _ (by omega)]; exact Has.put hPjh.out j _)
          have hFn := Lib.hid (show FoW (wr.setCell ⟨P, j, none⟩ (.int .i64 (Pn j))) G f from Has.far hFj.out hPG _)
          have hRn := Lib.hid (Has.far hRjh.out (p := ⟨P, j, none⟩) hPR (.int .i64 (Pn j)))
          have hBn := Lib.hid (hBjh.out.setCell (p := ⟨P, j, none⟩) hRP (.int .i64 (Pn j)))
          have hIn := Lib.hid (show Ils (wr.setCell ⟨P, j, none⟩ (.int .i64 (Pn j))) (wr.setCell ⟨P, j, none⟩ (.int .i64 (Pn j))).heap.size (some ⟨gl, off, none⟩) m ((nbs g v bt).map fun (w : Nat) => (w : Int)) from ⟨hIjh.out.1, fun hn => by
            obtain ⟨g9, o9, e9, hg9, hc9⟩ := hIjh.out.2 hn
            obtain ⟨rfl, rfl⟩ : gl = g9 ∧ off = o9 := by simpa using e9
            refine ⟨gl, off, rfl, by simpa using hg9, fun q d hq => ?_⟩
            exact (World.cell?_of_block (((KeptBut.refl wr (fun i => i = P)).put (p := ⟨P, j, none⟩) (fun _ => rfl) (.int .i64 (Pn j))).block gl hg9 (fun e => hgP e))).trans (hc9 q d hq)⟩)
          generalize M j = y at hi3 hml
          generalize Pk j = z at cp hml
          go_wp2_with fail
          go_roundg (3 - (j + 1))
          case measure => omega
          case rel => exact ⟨j + 1, by omega, rfl, by go_num, hFn.out, hN.out, hRn.out, hBn.out, hIn.out⟩
        · obtain rfl : j = 3 := by omega
          have hPe := Lib.hid (show Has wr P 45 (A3 (fun x => IntKind.i64.wrap (allP Fs g v bt x (k0 + 1)))) from by
            rw [hPnh.out, ← A3_congr (p := midK Pk Pn 3) (q := Pn) (fun x hx => by unfold midK; rw [if_pos (by omega)])]
            exact hPjh.out)
          go_wp2_with fail
          go_roundg (m - (k0 + 1))
          case measure => omega
          case rel => exact ⟨k0 + 1, by omega, rfl, by go_num, hFj.out, hPe.out, hRjh.out, hBjh.out, hIjh.out⟩
    · obtain rfl : k = m := by omega
      have hE := Lib.hid (A3_congr (p := fun x => IntKind.i64.wrap (allP Fs g v bt x k)) (q := fun x => IntKind.i64.wrap (allT Fs g v bt x)) (fun x _ => by rw [hall.out x]))
      rw [hE.out] at hPh
      obtain ⟨q, hq⟩ : ∃ q : Nat → Int, (fun x => IntKind.i64.wrap (allT Fs g v bt x)) = q := ⟨_, rfl⟩
      rw [hq] at hPh
      have p0 := (Has.cell hPh.out 0).trans (A3_at q (by decide))
      have p1 := (Has.cell hPh.out 1).trans (A3_at q (by decide))
      have p2 := (Has.cell hPh.out 2).trans (A3_at q (by decide))
      have r0 := Has.cell hRk'.out 0
      have r1 := Has.cell hRk'.out 1
      have r2 := Has.cell hRk'.out 2
      have rf := Has.frozen hRk'.out
      have hqh := Lib.hid hq
      have hBn := Lib.hid (((hBh.out.setCell (p := ⟨R, 0, none⟩) (Nat.le_refl R) (.int .i64 (q 0))).setCell (p := ⟨R, 1, none⟩) (Nat.le_refl R) (.int .i64 (q 1))).setCell (p := ⟨R, 2, none⟩) (Nat.le_refl R) (.int .i64 (q 2)))
      have hX := (((Has.put hRk'.out 0 (.int .i64 (q 0))).put 1 (.int .i64 (q 1))).put 2 (.int .i64 (q 2))).cell
      have x0 := hX 0
      have x1 := hX 1
      have x2 := hX 2
      clear hq hX
      go_wp2_with fail
      refine bodyPost_ret (v := .agg #[.int .i64 (q 0), .int .i64 (q 1), .int .i64 (q 2)]) (by simp [results, Try.results98, go_sem, x0, x1, x2]) rfl ?_
      refine ⟨by rw [hqh.out]; rfl, ?_⟩
      rw [hRh.out]
      exact hBn.out
end Go.Proofs.Ytghkpmafocacoaa
