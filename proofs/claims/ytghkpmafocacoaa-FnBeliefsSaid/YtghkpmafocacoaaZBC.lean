/- Parts of the proof: MG. -/
import Derived.BigQuiet
import Derived.Test.YtghkpmafocacoaaZBB
import Derived.Test.YtghkpmafocacoaaZAG
namespace Go.Proofs.Ytghkpmafocacoaa
set_option maxRecDepth 100000
set_option linter.unusedVariables false
open Go.RowKit
def mAcc (Fs : List Fac) (g : Gr) (u t y : Nat) (F : Fac) (s : Int) : Nat → Int
  | 0 => s
  | x + 1 => mAcc Fs g u t y F s x + allT Fs g u t x * fAt F (st2 u x t y)
def mLk (Fs : List Fac) (g : Gr) (u t y : Nat) (l : List Fac) : Int := l.foldl (fun s F => if isP F u t = true then mAcc Fs g u t y F s 3 else s) 0
theorem mLk_take {Fs : List Fac} {k : Nat} {F : Fac} (h : Fs[k]? = some F) (g : Gr) (u t y : Nat) : mLk Fs g u t y (Fs.take (k + 1)) = if isP F u t = true then mAcc Fs g u t y F (mLk Fs g u t y (Fs.take k)) 3 else mLk Fs g u t y (Fs.take k) := by
  obtain ⟨hl, he⟩ := List.getElem?_eq_some_iff.1 h
  unfold mLk
  rw [List.take_succ_eq_append_getElem hl, List.foldl_append, he]
  rfl
theorem foldl_if {f : Int → Fac → Int} {p : Fac → Bool} : ∀ (l : List Fac) (s : Int), l.foldl (fun s F => if p F = true then f s F else s) s = (l.filter p).foldl f s
  | [], s => rfl
  | F :: r, s => by
    rw [List.foldl_cons]
    cases h : p F
    · rw [List.filter_cons_of_neg (by simp [h]), if_neg (by decide)]
      exact foldl_if r s
    · rw [List.filter_cons_of_pos h, if_pos rfl, List.foldl_cons]
      exact foldl_if r _
theorem mLk_all {Fs : List Fac} {g : Gr} (hst : Fst Fs g) {u t : Nat} (hu : u ≤ 3) (ht : t ≤ 3) (he : (g.nx u).testBit t = true) (y : Nat) : mLk Fs g u t y Fs = msgT Fs g u t y := by
  have h1 := hst.one ⟨u, by omega⟩ ⟨t, by omega⟩
  simp only at h1
  have h2 := hst.ed ⟨u, by omega⟩ ⟨t, by omega⟩
  simp only at h2
  rw [he] at h2
  have hf : Fs.filter (fun F => isP F u t) = [btw Fs u t] := by
    have hh : (Fs.filter (fun F => isP F u t)).head? = Fs.find? (fun F => isP F u t) := List.head?_filter
    obtain ⟨x, hx, hp⟩ := List.any_eq_true.1 h2.symm
    have hm : x ∈ Fs.filter (fun F => isP F u t) := List.mem_filter.2 ⟨hx, hp⟩
    match hq : Fs.filter (fun F => isP F u t) with
    | [] => rw [hq] at hm; cases hm
    | [z] =>
      rw [hq] at hh
      unfold btw
      rw [← hh]
      rfl
    | z :: z2 :: r => rw [hq] at h1; simp at h1
  unfold mLk
  rw [foldl_if (f := fun s F => mAcc Fs g u t y F s 3) (p := fun F => isP F u t), hf]
  rw [msgT_eq hst.acy hu ht he]
  show ((0 + _) + _) + _ = _ + _ + _
  rw [Int.zero_add]
theorem isP_sets : ∀ a b u t : Fin 4, a ≠ b → u ≠ t → (decide (2 ^ a.val + 2 ^ b.val = 2 ^ u.val + 2 ^ t.val) : Bool) = ((2 : Nat) == 2 && ((a.val == u.val && b.val == t.val) || (a.val == t.val && b.val == u.val))) := by decide
theorem set_two : ∀ a b : Fin 4, a ≠ b → setOf [(a.val : Int), (b.val : Int)] = ((2 ^ a.val + 2 ^ b.val : Nat) : Int) := by decide
theorem isP_set {F : Fac} (h : facOk 9 F = true) (h2 : F.vs.length = 2) {u t : Nat} (hu : u ≤ 3) (ht : t ≤ 3) (hut : u ≠ t) : isP F u t = decide (setOf F.vs = ((2 ^ u + 2 ^ t : Nat) : Int)) := by
  obtain ⟨a, b, hab, hv, ea, eb⟩ := pair_two h h2
  unfold isP
  rw [h2, ea, eb, hv, set_two a b hab]
  have := isP_sets a b ⟨u, by omega⟩ ⟨t, by omega⟩ hab (fun e => hut (congrArg Fin.val e))
  simp only at this
  rw [← this, decide_eq_decide]
  omega
theorem or_two : ∀ u t : Fin 4, u ≠ t → bits .or .i64 (2 ^ u.val) (2 ^ t.val) = ((2 ^ u.val + 2 ^ t.val : Nat) : Int) := by decide +kernel
theorem macc_step (Fs : List Fac) (g : Gr) (u t y : Nat) (F : Fac) (s : Int) (x : Nat) : IntKind.i64.wrap (IntKind.i64.wrap (mAcc Fs g u t y F s x) + IntKind.i64.wrap (IntKind.i64.wrap (allT Fs g u t x) * fAt F (st2 u x t y))) = IntKind.i64.wrap (mAcc Fs g u t y F s (x + 1)) := by
  rw [wrap_mul_l, wrap_add]
  rfl
set_option maxHeartbeats 3000000 in
theorem msg_of (A : Option Addr) (n c : Nat) (Fs : List Fac) (g : Gr) (q : Nat) (hl8 : listOk Fs = true) (hst : Fst Fs g) (hA : AllC A n c Fs g q) : MsgC A n c Fs g (q + 1) := by
  intro u t w hu ht he hdep h
  have hl := h.1
  have hn8 : n ≤ 8 := by
    unfold listOk at hl8
    rw [Bool.and_eq_true, decide_eq_true_eq] at hl8
    omega
  have hut : u ≠ t := fun e => by
    subst e
    have := (prs_row g ⟨u, by omega⟩).2.2.2.1
    simp only at this
    rw [he] at this
    cases this
  have hdq : ∀ r ∈ nbs g u t, g.dep q r u = true := fun r hr => by
    have h1 := List.all_eq_true.1 (show (bitsN (g.nx u)).all (fun w => w == t || g.dep q w u) = true from hdep)
    unfold nbs at hr
    obtain ⟨h2, h3⟩ := List.mem_filter.1 hr
    have h4 := h1 r h2
    rw [Bool.or_eq_true, beq_iff_eq] at h4
    rcases h4 with h4 | h4
    · rw [h4] at h3; simp at h3
    · exact h4
  have cA := Lib.hid (fun wx hx => hA u t (t : Int) wx hu (fun r hr => by rw [Bool.eq_iff_iff, beq_iff_eq, decide_eq_true_eq]; omega) hdq hx)
  have hok := Lib.hid (list_nine hl8)
  have hall := Lib.hid (fun y => mLk_all hst hu ht he y)
  have htk := Lib.hid (fun k F y (hk : Fs[k]? = some F) => mLk_take hk g u t y)
  have hmac := Lib.hid (fun y F s x => macc_step Fs g u t y F s x)
  have hm0 := Lib.hid (fun y F s => (rfl : mAcc Fs g u t y F s 0 = s))
  have hor := or_two ⟨u, by omega⟩ ⟨t, by omega⟩ (fun e => hut (congrArg Fin.val e))
  simp only at hor
  have hsu := wrap_two hu
  have hst' := wrap_two ht
  have hI := Lib.hid h
  have hu0 : (0 : Int) ≤ (u : Int) := by omega
  have hu64 : (u : Int) ≤ 64 := by omega
  have ht0 : (0 : Int) ≤ (t : Int) := by omega
  have ht64 : (t : Int) ≤ 64 := by omega
  have hisP := Lib.hid (fun F (hF : F ∈ Fs) (h2 : F.vs.length = 2) => isP_set (list_nine hl8 F hF) h2 hu ht hut)
  have hnoP := Lib.hid (fun (F : Fac) (h2 : F.vs.length ≠ 2) => (show isP F u t = false from by
    unfold isP
    rw [show (F.vs.length == 2) = false from by rw [beq_eq_false_iff_ne]; exact h2]
    rfl))
  have hsb := Lib.hid (fun x y (hx : x ≤ 2) (hy : y ≤ 2) => st2_bd (y := y) hu hx ht hy)
  clear h hA hdq hdep hst hl8 he
  go_enter Try.func96, Try.ntmps96
  go_wp2_with fail
  refine (cA.out w hI.out).mono ?_
  rintro e w1 ⟨G, cG, rfl, ho, hb1⟩
  have hz1 := hb1.size
  have hM1 := Lib.hid (show IOwn (w1.alloc (.cells #[.int .i64 0, .int .i64 0, .int .i64 0] 3)) w.heap.size (.slice (some ⟨w1.heap.size, 0, none⟩) 3 3) (row3 fun y => IntKind.i64.wrap (mLk Fs g u t y (Fs.take 0))) from
    owns_le (IOwn.of_has (base := w1.heap.size) (Has.new w1 _ _) rfl rfl (Nat.le_refl _) (by unfold maxLen; omega)) hz1)
  have hO1 := Lib.hid (IOwn.alloc (ho) (.cells #[.int .i64 0, .int .i64 0, .int .i64 0] 3))
  have hB1 := Lib.hid (hb1.alloc hz1 (.cells #[.int .i64 0, .int .i64 0, .int .i64 0] 3))
  have hGM : G ≠ w1.heap.size := by have := (World.ownsRow.lt ho G rfl).2; omega
  clear ho hb1 cA
  go_wp2_with fail
  generalize w1.alloc (.cells #[.int .i64 0, .int .i64 0, .int .i64 0] 3) = W1 at hM1 hO1 hB1 ⊢
  generalize w1.heap.size = M at hM1 hGM hz1 ⊢
  obtain ⟨Kn, hKn⟩ : ∃ Kn : Nat → Int, (fun x => IntKind.i64.wrap (allT Fs g u t x)) = Kn := ⟨_, rfl⟩
  rw [hKn] at hO1
  have hKh := Lib.hid (fun x => (congrFun hKn x : IntKind.i64.wrap (allT Fs g u t x) = Kn x))
  clear hKn
  go_loopg [9] n (fun gn i wr => ∃ k : Nat, k ≤ n ∧ gn = n - k ∧ i = .int .i64 k ∧ IOwn wr w.heap.size (.slice (some ⟨M, 0, none⟩) 3 3) (row3 fun y => IntKind.i64.wrap (mLk Fs g u t y (Fs.take k))) ∧ IOwn wr w.heap.size (.slice (some ⟨G, 0, none⟩) 3 cG) (row3 Kn) ∧ Below w.heap.size w wr)
  case atStart => exact ⟨0, Nat.zero_le _, rfl, rfl, hM1.out, hO1.out, hB1.out⟩
  case round =>
    obtain ⟨k, hk, hgn, rfl, hM, hO, hB⟩ := hrel
    have hgk : gk = n - k := hgn
    have hMk := Lib.hid hM
    have hOk := Lib.hid hO
    have hBk := Lib.hid hB
    clear hgn hM hO hB hM1 hO1 hB1
    by_cases hlt : k < n
    · obtain ⟨gl, off, F, B1, m1, e1, B2, m2, e2, rfl, hgl, hFk, dl1, dl2, hFW⟩ := hI.out.at_ hlt
      have hc1 := Lib.hid (fun wx (hx : Below w.heap.size w wx) => (hx.cell (p := ⟨gl, off + k * 2, none⟩) hgl).trans dl1)
      have hc2 := Lib.hid (fun wx (hx : Below w.heap.size w wx) => (hx.cell (p := ⟨gl, off + k * 2 + 1, none⟩) hgl).trans dl2)
      have cl1 := hc1.out wr hBk.out
      have cl2 := hc2.out wr hBk.out
      have hk0 : (0 : Int) ≤ (k : Int) := by omega
      have hk1 : (k : Int) < (n : Int) := by omega
      have hFo := hok.out F (List.mem_of_getElem? hFk)
      have hstk := Lib.hid (fun y => htk.out k F y hFk)
      obtain ⟨q1, q2, q3, q4, q5⟩ := fac_parts hFo
      have hm1 := hFW.1.1
      have hm4 : m1 ≤ 4 := by omega
      have hFWh := Lib.hid (fun wx (hx : Below w.heap.size w wx) => (show FacW wx wx.heap.size B1 m1 B2 m2 F from (hFW.keep_ hx).more hx.size))
      have hFWv := Lib.hid (fun wx (hx : Below w.heap.size w wx) => (hFWh.out wx hx).1)
      have cS := Lib.hid (fun wx hx => l8Set_any B1 m1 e1 F.vs wx hx (by unfold maxLen; omega) q5)
      have hq345 := Lib.hid (And.intro q3 q5)
      clear dl1 dl2
      by_cases h2 : m1 = 2
      · subst h2
        have hiP := hisP.out F (List.mem_of_getElem? hFk) hm1
        have hiPh := Lib.hid hiP
        by_cases hs : setOf F.vs = ((2 ^ u + 2 ^ t : Nat) : Int)
        · rw [hs] at cS
          rw [decide_eq_true hs] at hiP
          have hyes := Lib.hid (fun y => (show mLk Fs g u t y (Fs.take (k + 1)) = mAcc Fs g u t y F (mLk Fs g u t y (Fs.take k)) 3 from by rw [hstk.out y, if_pos hiP]))
          obtain ⟨pp, hpp⟩ : ∃ pp : Int, ((2 ^ u + 2 ^ t : Nat) : Int) = pp := ⟨_, rfl⟩
          rw [hpp] at hor cS
          have cSw := Lib.hid (fun q => ((cS.out (wr.drewN q) (hFWv.out _ (below_drewN hBk.out q))).mono fun _ _ p => (show _ ∧ _ = wr.drewN q from ⟨p.1, p.2.symm⟩)))
          clear hiP hs hpp hFk hFo q1 q2 q3 q4 q5 hm1 hFW cS
          go_wp2_with fail
          go_quiet (first | (go_at_call 138; exact Calls.quiet_of_same (cSw.out _)))
          have hbd := below_drewN (Below.refl wr.heap.size wr) nq
          have hM5 := Lib.hid (hMk.out.below hbd)
          have hO5 := Lib.hid (hOk.out.below hbd)
          have hB5 := Lib.hid (below_drewN hBk.out nq)
          generalize wr.drewN nq = W5 at hM5 hO5 hB5 ⊢
          clear hbd cl1 cl2 cSw hor hMk hOk hBk
          go_wp2_with fail
          obtain ⟨k0, rfl⟩ : ∃ q, q = k := ⟨_, rfl⟩
          obtain ⟨g3, rfl⟩ : ∃ q, q = gk := ⟨_, rfl⟩
          clear wr
          obtain ⟨S0, hS0⟩ : ∃ S0 : Nat → Int, (fun y => mLk Fs g u t y (Fs.take k0)) = S0 := ⟨_, rfl⟩
          have hS0h := Lib.hid (fun y => (congrFun hS0 y : mLk Fs g u t y (Fs.take k0) = S0 y))
          clear hS0
          have hM6 := Lib.hid (show IOwn W5 w.heap.size (.slice (some ⟨M, 0, none⟩) 3 3) (row3 fun y => IntKind.i64.wrap (mAcc Fs g u t y F (S0 y) 0)) from by
            rw [row3_congr (h := fun y => IntKind.i64.wrap (mLk Fs g u t y (Fs.take k0))) (fun y _ => by rw [hS0h.out y]; rfl)]
            exact hM5.out)
          clear hM5
          go_loopg [10] 3 (fun gn i wr => ∃ x : Nat, x ≤ 3 ∧ gn = 3 - x ∧ i = .int .i64 x ∧ IOwn wr w.heap.size (.slice (some ⟨M, 0, none⟩) 3 3) (row3 fun y => IntKind.i64.wrap (mAcc Fs g u t y F (S0 y) x)) ∧ IOwn wr w.heap.size (.slice (some ⟨G, 0, none⟩) 3 cG) (row3 Kn) ∧ Below w.heap.size w wr)
          case atStart => exact ⟨0, by omega, rfl, rfl, hM6.out, hO5.out, hB5.out⟩
          case round =>
            obtain ⟨x, hx, hgn, rfl, hM, hO, hB⟩ := hrel
            have hgx : gk = 3 - x := hgn
            have hMx := Lib.hid hM
            have hOx := Lib.hid hO
            have hBx := Lib.hid hB
            clear hgn hM hO hB hM6 hO5 hB5
            by_cases hlx : x < 3
            · have hx0 : (0 : Int) ≤ (x : Int) := by omega
              have hx3 : (x : Int) < 3 := by omega
              have hst2 : Hid (∀ y : Nat, st2 u x t y = withValue (withValue 0 (u : Int) (x : Int)) (t : Int) (y : Int)) := Lib.hid (fun y => rfl)
              have hs1b := with_bd (st := 0) (v := (u : Int)) (x := (x : Int)) (by decide) (by omega) (by omega)
              have cW1 := Lib.hid (fun wx => l1With_v 0 (u : Int) (x : Int) wx (by decide) (by omega) (by omega))
              obtain ⟨S1, hS1⟩ : ∃ S1, withValue 0 (u : Int) (x : Int) = S1 := ⟨_, rfl⟩
              rw [hS1] at cW1 hst2 hs1b
              obtain ⟨kx, hkx⟩ : ∃ kx, Kn x = kx := ⟨_, rfl⟩
              have hmm := Lib.hid (fun y => (show IntKind.i64.wrap (IntKind.i64.wrap (mAcc Fs g u t y F (S0 y) x) + IntKind.i64.wrap (kx * fAt F (withValue S1 (t : Int) (y : Int)))) = IntKind.i64.wrap (mAcc Fs g u t y F (S0 y) (x + 1)) from by
                rw [← hkx, ← hKh.out x, ← hst2.out y]
                exact hmac.out y F (S0 y) x))
              have hkxh := Lib.hid hkx
              clear hS1 hkx
              go_wp2_with fail
              obtain ⟨x0, rfl⟩ : ∃ q, q = x := ⟨_, rfl⟩
              obtain ⟨w3, rfl⟩ : ∃ q : World, q = wr := ⟨_, rfl⟩
              obtain ⟨g4, rfl⟩ : ∃ q, q = gk := ⟨_, rfl⟩
              obtain ⟨Mp, hMp⟩ : ∃ Mp : Nat → Int, (fun y => IntKind.i64.wrap (mAcc Fs g u t y F (S0 y) x0)) = Mp := ⟨_, rfl⟩
              obtain ⟨Mn, hMn⟩ : ∃ Mn : Nat → Int, (fun y => IntKind.i64.wrap (mAcc Fs g u t y F (S0 y) (x0 + 1))) = Mn := ⟨_, rfl⟩
              have hadd := Lib.hid (fun y => (show IntKind.i64.wrap (Mp y + IntKind.i64.wrap (kx * fAt F (withValue S1 (t : Int) (y : Int)))) = Mn y from by rw [← hMp, ← hMn]; exact hmm.out y))
              rw [hMp] at hMx
              have hMnh := Lib.hid hMn
              clear hMp hMn hmm
              go_loopg [11] 3 (fun gn i wr => ∃ j : Nat, j ≤ 3 ∧ gn = 3 - j ∧ i = .int .i64 j ∧ IOwn wr w.heap.size (.slice (some ⟨M, 0, none⟩) 3 3) (row3 (midK Mp Mn j)) ∧ IOwn wr w.heap.size (.slice (some ⟨G, 0, none⟩) 3 cG) (row3 Kn) ∧ Below w.heap.size w wr)
              case atStart => exact ⟨0, by omega, rfl, rfl, hMx.out, hOx.out, hBx.out⟩
              case round =>
                obtain ⟨j, hj, hgn, rfl, hM, hO, hB⟩ := hrel
                have hgj : gk = 3 - j := hgn
                have hMj := Lib.hid hM
                have hOj := Lib.hid hO
                have hBj := Lib.hid hB
                clear hgn hM hO hB hMx hOx hBx
                by_cases hlj : j < 3
                · have hj0 : (0 : Int) ≤ (j : Int) := by omega
                  have hj3 : (j : Int) < 3 := by omega
                  have hmj : midK Mp Mn j j = Mp j := by unfold midK; rw [if_neg (by omega)]
                  have cW2 := Lib.hid (fun wx => l1With_v S1 (t : Int) (j : Int) wx hs1b (by omega) (by omega))
                  have hs2 := hsb.out x0 j (by omega) (by omega)
                  rw [hst2.out j] at hs2
                  have cI := Lib.hid (fun wx hx => l8At_any B1 B2 2 e1 m2 e2 F (withValue S1 (t : Int) (j : Int)) wx hx (by decide) hq345.out.1 hq345.out.2 hs2)
                  have had := hadd.out j
                  generalize withValue S1 (t : Int) (j : Int) = s2 at cW2 cI had
                  generalize fAt F s2 = z at cI had
                  obtain ⟨mp, hmp⟩ : ∃ mp, Mp j = mp := ⟨_, rfl⟩
                  obtain ⟨mn, hmn⟩ : ∃ mn, Mn j = mn := ⟨_, rfl⟩
                  rw [hmp, hmn] at had
                  have hcm := Lib.hid (fun wx (hx : IOwn wx w.heap.size (.slice (some ⟨M, 0, none⟩) 3 3) (row3 (midK Mp Mn j))) => (show wx.cell? ⟨M, j, none⟩ = some (.int .i64 mp) ∧ wx.frozen? ⟨M, j, none⟩ = false from by
                    obtain ⟨h1, h2, _⟩ := iown_cell (ds := row3 (midK Mp Mn j)) hx (row3_at _ (v := j) (by omega))
                    rw [hmj, hmp] at h1
                    exact ⟨h1, h2⟩))
                  have hck := Lib.hid (fun wx (hx : IOwn wx w.heap.size (.slice (some ⟨G, 0, none⟩) 3 cG) (row3 Kn)) => (show wx.cell? ⟨G, x0, none⟩ = some (.int .i64 kx) from by
                    obtain ⟨h1, _, _⟩ := iown_cell (ds := row3 Kn) hx (row3_at _ (v := x0) (by omega))
                    rw [hkxh.out] at h1
                    exact h1))
                  have hmnh := Lib.hid hmn
                  have hzM := (World.ownsRow.lt hMj.out M rfl).1
                  clear hmp hmn hmj
                  go_wp2_with fail
                  refine (cW1.out wr).mono ?_
                  rintro e w' ⟨rfl, rfl⟩
                  go_wp2_with fail
                  refine (cW2.out _).mono ?_
                  rintro e w' ⟨rfl, rfl⟩
                  go_wp2_with fail
                  refine wp_region_any (by kernel_rfl) ?_
                  change wpAny _ _ _ _ _ _ _ (World.drew _)
                  refine wpAny_last (n := 19) (I := fun listed aq wx => listed.size = 20 ∧ ∃ v59 v60 v61 v62 v63 v64 v65 v66 v67 v68 v69 v70 v71 v72 v73 v74 v75 v76 v77 : Value, aq = { tmps := #[.slice (some ⟨gl, off, none⟩) n c, .int .i64 ↑u, .int .i64 ↑t, undef, undef, undef, .slice none 0 0, .slice (some ⟨G, 0, none⟩) 3 cG, .slice (some ⟨M, 0, none⟩) 3 3, .int .i64 ↑k0, .int .i64 ↑x0, .int .i64 ↑j, .int .i64 s2, .slice (some ⟨gl, off, none⟩) n c, .int .i64 ↑u, .int .i64 ↑t, .slice (some ⟨G, 0, none⟩) 3 cG, .slice (some ⟨M, 0, none⟩) 3 3, .int .i64 ↑k0, .slice (some ⟨gl, off, none⟩) n c, .int .i64 ↑n, .bool true, u22, u23, .slice (some ⟨gl, off, none⟩) n c, .int .i64 ↑k0, .pointer (some ⟨gl, off + k0 * 2, none⟩), .pointer (some ⟨gl, off + k0 * 2, none⟩), .slice B1 2 e1, .int .i64 2, .bool false, .bool false, .slice (some ⟨gl, off, none⟩) n c, .int .i64 ↑k0, .pointer (some ⟨gl, off + k0 * 2, none⟩), .pointer (some ⟨gl, off + k0 * 2, none⟩), .slice B1 2 e1, .int .i64 pp, .int .i64 ↑u, .int .i64 (2 ^ u), .int .i64 ↑t, .int .i64 (2 ^ t), .int .i64 pp, .bool false, .bool false, .int .i64 ↑x0, .bool true, u47, u48, .int .i64 ↑j, .bool true, u51, u52, .int .i64 ↑u, .int .i64 ↑x0, .int .i64 S1, .int .i64 ↑t, .int .i64 ↑j, .int .i64 s2, v59, v60, v61, v62, v63, v64, v65, v66, v67, v68, v69, v70, v71, v72, v73, v74, v75, v76, v77, undef], defers := [] } ∧ (listed.getD 0 false = true → v59 = .slice (some ⟨M, 0, none⟩) 3 3) ∧ (listed.getD 1 false = true → v60 = .int .i64 ↑j) ∧ (listed.getD 2 false = true → v61 = .slice (some ⟨M, 0, none⟩) 3 3) ∧ (listed.getD 3 false = true → v62 = .int .i64 ↑j) ∧ (listed.getD 4 false = true → v63 = .pointer (some ⟨M, j, none⟩)) ∧ (listed.getD 5 false = true → v64 = .int .i64 mp) ∧ (listed.getD 6 false = true → v65 = .slice (some ⟨G, 0, none⟩) 3 cG) ∧ (listed.getD 7 false = true → v66 = .int .i64 ↑x0) ∧ (listed.getD 8 false = true → v67 = .pointer (some ⟨G, x0, none⟩)) ∧ (listed.getD 9 false = true → v68 = .int .i64 kx) ∧ (listed.getD 10 false = true → v69 = .slice (some ⟨gl, off, none⟩) n c) ∧ (listed.getD 11 false = true → v70 = .int .i64 ↑k0) ∧ (listed.getD 12 false = true → v71 = .pointer (some ⟨gl, off + k0 * 2, none⟩)) ∧ (listed.getD 13 false = true → v72 = .agg #[.slice B1 2 e1, .slice B2 m2 e2]) ∧ (listed.getD 14 false = true → v73 = .int .i64 s2) ∧ (listed.getD 15 false = true → v74 = .int .i64 z) ∧ (listed.getD 16 false = true → v75 = .int .i64 (IntKind.i64.wrap (kx * z))) ∧ (listed.getD 17 false = true → v76 = .int .i64 mn) ∧ (listed.getD 18 false = true → v77 = .pointer (some ⟨M, j, none⟩)) ∧ Below w'.heap.size w' wx) rfl (by kernel_rfl) (by kernel_rfl) ?hs ?hl _ _ _ ?st rfl (by decide) _ (by decide)
                  case st =>
                    refine ⟨rfl, u59, u60, u61, u62, u63, u64, u65, u66, u67, u68, u69, u70, u71, u72, u73, u74, u75, u76, u77, rfl, ?_, ?_, ?_, ?_, ?_, ?_, ?_, ?_, ?_, ?_, ?_, ?_, ?_, ?_, ?_, ?_, ?_, ?_, ?_, (Below.refl _ _).drew⟩ <;> (intro e; exact absurd e (by decide))
                  case hs =>
                    rintro listed aq wx ⟨hz, v59, v60, v61, v62, v63, v64, v65, v66, v67, v68, v69, v70, v71, v72, v73, v74, v75, v76, v77, rfl, hII⟩ i hin hi
                    obtain ⟨h0, o, ho, hd⟩ := mem_ready.1 hi
                    have K0 := Lib.hid hII.1
                    have K1 := Lib.hid hII.2.1
                    have K2 := Lib.hid hII.2.2.1
                    have K3 := Lib.hid hII.2.2.2.1
                    have K4 := Lib.hid hII.2.2.2.2.1
                    have K5 := Lib.hid hII.2.2.2.2.2.1
                    have K6 := Lib.hid hII.2.2.2.2.2.2.1
                    have K7 := Lib.hid hII.2.2.2.2.2.2.2.1
                    have K8 := Lib.hid hII.2.2.2.2.2.2.2.2.1
                    have K9 := Lib.hid hII.2.2.2.2.2.2.2.2.2.1
                    have K10 := Lib.hid hII.2.2.2.2.2.2.2.2.2.2.1
                    have K11 := Lib.hid hII.2.2.2.2.2.2.2.2.2.2.2.1
                    have K12 := Lib.hid hII.2.2.2.2.2.2.2.2.2.2.2.2.1
                    have K13 := Lib.hid hII.2.2.2.2.2.2.2.2.2.2.2.2.2.1
                    have K14 := Lib.hid hII.2.2.2.2.2.2.2.2.2.2.2.2.2.2.1
                    have K15 := Lib.hid hII.2.2.2.2.2.2.2.2.2.2.2.2.2.2.2.1
                    have K16 := Lib.hid hII.2.2.2.2.2.2.2.2.2.2.2.2.2.2.2.2.1
                    have K17 := Lib.hid hII.2.2.2.2.2.2.2.2.2.2.2.2.2.2.2.2.2.1
                    have K18 := Lib.hid hII.2.2.2.2.2.2.2.2.2.2.2.2.2.2.2.2.2.2.1
                    have hB : Below w'.heap.size w' wx := hII.2.2.2.2.2.2.2.2.2.2.2.2.2.2.2.2.2.2.2
                    have hne := Lib.hid (fun k (hk : i ≠ k) => @listed_ne listed i k hk)
                    have hMx : IOwn wx w.heap.size (.slice (some ⟨M, 0, none⟩) 3 3) (row3 (midK Mp Mn j)) := hMj.out.below hB
                    have hOx : IOwn wx w.heap.size (.slice (some ⟨G, 0, none⟩) 3 cG) (row3 Kn) := hOj.out.below hB
                    have hBx : Below w.heap.size w wx := hBj.out.trans (hB.mono hBj.out.size)
                    have hNx : FacW wx wx.heap.size B1 2 B2 m2 F := hFWh.out wx hBx
                    have h0f : listed.getD i false = false := by rw [Array.getD_eq_getD_getElem?, getD_false h0]; rfl
                    clear hII hi h0
                    rcases (by omega : i = 0 ∨ i = 1 ∨ i = 2 ∨ i = 3 ∨ i = 4 ∨ i = 5 ∨ i = 6 ∨ i = 7 ∨ i = 8 ∨ i = 9 ∨ i = 10 ∨ i = 11 ∨ i = 12 ∨ i = 13 ∨ i = 14 ∨ i = 15 ∨ i = 16 ∨ i = 17 ∨ i = 18) with rfl | rfl | rfl | rfl | rfl | rfl | rfl | rfl | rfl | rfl | rfl | rfl | rfl | rfl | rfl | rfl | rfl | rfl | rfl
                    · cases ho
                      refine wpOp_step rfl (fun K hK => ?_)
                      go_simp
                      refine hK _ _ ⟨by simpa using hz, .slice (some ⟨M, 0, none⟩) 3 3, v60, v61, v62, v63, v64, v65, v66, v67, v68, v69, v70, v71, v72, v73, v74, v75, v76, v77, rfl, ?_⟩
                      exact ⟨fun _ => rfl, fun e => K1.out (hne.out 1 (by decide) e), fun e => K2.out (hne.out 2 (by decide) e), fun e => K3.out (hne.out 3 (by decide) e), fun e => K4.out (hne.out 4 (by decide) e), fun e => K5.out (hne.out 5 (by decide) e), fun e => K6.out (hne.out 6 (by decide) e), fun e => K7.out (hne.out 7 (by decide) e), fun e => K8.out (hne.out 8 (by decide) e), fun e => K9.out (hne.out 9 (by decide) e), fun e => K10.out (hne.out 10 (by decide) e), fun e => K11.out (hne.out 11 (by decide) e), fun e => K12.out (hne.out 12 (by decide) e), fun e => K13.out (hne.out 13 (by decide) e), fun e => K14.out (hne.out 14 (by decide) e), fun e => K15.out (hne.out 15 (by decide) e), fun e => K16.out (hne.out 16 (by decide) e), fun e => K17.out (hne.out 17 (by decide) e), fun e => K18.out (hne.out 18 (by decide) e), hB⟩
                    · cases ho
                      refine wpOp_step rfl (fun K hK => ?_)
                      go_simp
                      refine hK _ _ ⟨by simpa using hz, v59, .int .i64 ↑j, v61, v62, v63, v64, v65, v66, v67, v68, v69, v70, v71, v72, v73, v74, v75, v76, v77, rfl, ?_⟩
                      exact ⟨fun e => K0.out (hne.out 0 (by decide) e), fun _ => rfl, fun e => K2.out (hne.out 2 (by decide) e), fun e => K3.out (hne.out 3 (by decide) e), fun e => K4.out (hne.out 4 (by decide) e), fun e => K5.out (hne.out 5 (by decide) e), fun e => K6.out (hne.out 6 (by decide) e), fun e => K7.out (hne.out 7 (by decide) e), fun e => K8.out (hne.out 8 (by decide) e), fun e => K9.out (hne.out 9 (by decide) e), fun e => K10.out (hne.out 10 (by decide) e), fun e => K11.out (hne.out 11 (by decide) e), fun e => K12.out (hne.out 12 (by decide) e), fun e => K13.out (hne.out 13 (by decide) e), fun e => K14.out (hne.out 14 (by decide) e), fun e => K15.out (hne.out 15 (by decide) e), fun e => K16.out (hne.out 16 (by decide) e), fun e => K17.out (hne.out 17 (by decide) e), fun e => K18.out (hne.out 18 (by decide) e), hB⟩
                    · cases ho
                      refine wpOp_step rfl (fun K hK => ?_)
                      go_simp
                      refine hK _ _ ⟨by simpa using hz, v59, v60, .slice (some ⟨M, 0, none⟩) 3 3, v62, v63, v64, v65, v66, v67, v68, v69, v70, v71, v72, v73, v74, v75, v76, v77, rfl, ?_⟩
                      exact ⟨fun e => K0.out (hne.out 0 (by decide) e), fun e => K1.out (hne.out 1 (by decide) e), fun _ => rfl, fun e => K3.out (hne.out 3 (by decide) e), fun e => K4.out (hne.out 4 (by decide) e), fun e => K5.out (hne.out 5 (by decide) e), fun e => K6.out (hne.out 6 (by decide) e), fun e => K7.out (hne.out 7 (by decide) e), fun e => K8.out (hne.out 8 (by decide) e), fun e => K9.out (hne.out 9 (by decide) e), fun e => K10.out (hne.out 10 (by decide) e), fun e => K11.out (hne.out 11 (by decide) e), fun e => K12.out (hne.out 12 (by decide) e), fun e => K13.out (hne.out 13 (by decide) e), fun e => K14.out (hne.out 14 (by decide) e), fun e => K15.out (hne.out 15 (by decide) e), fun e => K16.out (hne.out 16 (by decide) e), fun e => K17.out (hne.out 17 (by decide) e), fun e => K18.out (hne.out 18 (by decide) e), hB⟩
                    · cases ho
                      refine wpOp_step rfl (fun K hK => ?_)
                      go_simp
                      refine hK _ _ ⟨by simpa using hz, v59, v60, v61, .int .i64 ↑j, v63, v64, v65, v66, v67, v68, v69, v70, v71, v72, v73, v74, v75, v76, v77, rfl, ?_⟩
                      exact ⟨fun e => K0.out (hne.out 0 (by decide) e), fun e => K1.out (hne.out 1 (by decide) e), fun e => K2.out (hne.out 2 (by decide) e), fun _ => rfl, fun e => K4.out (hne.out 4 (by decide) e), fun e => K5.out (hne.out 5 (by decide) e), fun e => K6.out (hne.out 6 (by decide) e), fun e => K7.out (hne.out 7 (by decide) e), fun e => K8.out (hne.out 8 (by decide) e), fun e => K9.out (hne.out 9 (by decide) e), fun e => K10.out (hne.out 10 (by decide) e), fun e => K11.out (hne.out 11 (by decide) e), fun e => K12.out (hne.out 12 (by decide) e), fun e => K13.out (hne.out 13 (by decide) e), fun e => K14.out (hne.out 14 (by decide) e), fun e => K15.out (hne.out 15 (by decide) e), fun e => K16.out (hne.out 16 (by decide) e), fun e => K17.out (hne.out 17 (by decide) e), fun e => K18.out (hne.out 18 (by decide) e), hB⟩
                    · cases ho
                      have d2 := hd ⟨2, .data⟩ (by simp) rfl
                      have d3 := hd ⟨3, .data⟩ (by simp) rfl
                      obtain rfl := K2.out d2
                      obtain rfl := K3.out d3
                      refine wpOp_step rfl (fun K hK => ?_)
                      go_simp
                      refine hK _ _ ⟨by simpa using hz, v59, v60, .slice (some ⟨M, 0, none⟩) 3 3, .int .i64 ↑j, .pointer (some ⟨M, j, none⟩), v64, v65, v66, v67, v68, v69, v70, v71, v72, v73, v74, v75, v76, v77, rfl, ?_⟩
                      exact ⟨fun e => K0.out (hne.out 0 (by decide) e), fun e => K1.out (hne.out 1 (by decide) e), fun e => K2.out (hne.out 2 (by decide) e), fun e => K3.out (hne.out 3 (by decide) e), fun _ => rfl, fun e => K5.out (hne.out 5 (by decide) e), fun e => K6.out (hne.out 6 (by decide) e), fun e => K7.out (hne.out 7 (by decide) e), fun e => K8.out (hne.out 8 (by decide) e), fun e => K9.out (hne.out 9 (by decide) e), fun e => K10.out (hne.out 10 (by decide) e), fun e => K11.out (hne.out 11 (by decide) e), fun e => K12.out (hne.out 12 (by decide) e), fun e => K13.out (hne.out 13 (by decide) e), fun e => K14.out (hne.out 14 (by decide) e), fun e => K15.out (hne.out 15 (by decide) e), fun e => K16.out (hne.out 16 (by decide) e), fun e => K17.out (hne.out 17 (by decide) e), fun e => K18.out (hne.out 18 (by decide) e), hB⟩
                    · cases ho
                      have d4 := hd ⟨4, .data⟩ (by simp) rfl
                      obtain rfl := K4.out d4
                      have hcc := (hcm.out wx hMx).1
                      refine wpOp_step rfl (fun K hK => ?_)
                      go_simp
                      refine hK _ _ ⟨by simpa using hz, v59, v60, v61, v62, .pointer (some ⟨M, j, none⟩), .int .i64 mp, v65, v66, v67, v68, v69, v70, v71, v72, v73, v74, v75, v76, v77, rfl, ?_⟩
                      exact ⟨fun e => K0.out (hne.out 0 (by decide) e), fun e => K1.out (hne.out 1 (by decide) e), fun e => K2.out (hne.out 2 (by decide) e), fun e => K3.out (hne.out 3 (by decide) e), fun e => K4.out (hne.out 4 (by decide) e), fun _ => rfl, fun e => K6.out (hne.out 6 (by decide) e), fun e => K7.out (hne.out 7 (by decide) e), fun e => K8.out (hne.out 8 (by decide) e), fun e => K9.out (hne.out 9 (by decide) e), fun e => K10.out (hne.out 10 (by decide) e), fun e => K11.out (hne.out 11 (by decide) e), fun e => K12.out (hne.out 12 (by decide) e), fun e => K13.out (hne.out 13 (by decide) e), fun e => K14.out (hne.out 14 (by decide) e), fun e => K15.out (hne.out 15 (by decide) e), fun e => K16.out (hne.out 16 (by decide) e), fun e => K17.out (hne.out 17 (by decide) e), fun e => K18.out (hne.out 18 (by decide) e), hB⟩
                    · cases ho
                      refine wpOp_step rfl (fun K hK => ?_)
                      go_simp
                      refine hK _ _ ⟨by simpa using hz, v59, v60, v61, v62, v63, v64, .slice (some ⟨G, 0, none⟩) 3 cG, v66, v67, v68, v69, v70, v71, v72, v73, v74, v75, v76, v77, rfl, ?_⟩
                      exact ⟨fun e => K0.out (hne.out 0 (by decide) e), fun e => K1.out (hne.out 1 (by decide) e), fun e => K2.out (hne.out 2 (by decide) e), fun e => K3.out (hne.out 3 (by decide) e), fun e => K4.out (hne.out 4 (by decide) e), fun e => K5.out (hne.out 5 (by decide) e), fun _ => rfl, fun e => K7.out (hne.out 7 (by decide) e), fun e => K8.out (hne.out 8 (by decide) e), fun e => K9.out (hne.out 9 (by decide) e), fun e => K10.out (hne.out 10 (by decide) e), fun e => K11.out (hne.out 11 (by decide) e), fun e => K12.out (hne.out 12 (by decide) e), fun e => K13.out (hne.out 13 (by decide) e), fun e => K14.out (hne.out 14 (by decide) e), fun e => K15.out (hne.out 15 (by decide) e), fun e => K16.out (hne.out 16 (by decide) e), fun e => K17.out (hne.out 17 (by decide) e), fun e => K18.out (hne.out 18 (by decide) e), hB⟩
                    · cases ho
                      refine wpOp_step rfl (fun K hK => ?_)
                      go_simp
                      refine hK _ _ ⟨by simpa using hz, v59, v60, v61, v62, v63, v64, v65, .int .i64 ↑x0, v67, v68, v69, v70, v71, v72, v73, v74, v75, v76, v77, rfl, ?_⟩
                      exact ⟨fun e => K0.out (hne.out 0 (by decide) e), fun e => K1.out (hne.out 1 (by decide) e), fun e => K2.out (hne.out 2 (by decide) e), fun e => K3.out (hne.out 3 (by decide) e), fun e => K4.out (hne.out 4 (by decide) e), fun e => K5.out (hne.out 5 (by decide) e), fun e => K6.out (hne.out 6 (by decide) e), fun _ => rfl, fun e => K8.out (hne.out 8 (by decide) e), fun e => K9.out (hne.out 9 (by decide) e), fun e => K10.out (hne.out 10 (by decide) e), fun e => K11.out (hne.out 11 (by decide) e), fun e => K12.out (hne.out 12 (by decide) e), fun e => K13.out (hne.out 13 (by decide) e), fun e => K14.out (hne.out 14 (by decide) e), fun e => K15.out (hne.out 15 (by decide) e), fun e => K16.out (hne.out 16 (by decide) e), fun e => K17.out (hne.out 17 (by decide) e), fun e => K18.out (hne.out 18 (by decide) e), hB⟩
                    · cases ho
                      have d6 := hd ⟨6, .data⟩ (by simp) rfl
                      have d7 := hd ⟨7, .data⟩ (by simp) rfl
                      obtain rfl := K6.out d6
                      obtain rfl := K7.out d7
                      refine wpOp_step rfl (fun K hK => ?_)
                      go_simp
                      refine hK _ _ ⟨by simpa using hz, v59, v60, v61, v62, v63, v64, .slice (some ⟨G, 0, none⟩) 3 cG, .int .i64 ↑x0, .pointer (some ⟨G, x0, none⟩), v68, v69, v70, v71, v72, v73, v74, v75, v76, v77, rfl, ?_⟩
                      exact ⟨fun e => K0.out (hne.out 0 (by decide) e), fun e => K1.out (hne.out 1 (by decide) e), fun e => K2.out (hne.out 2 (by decide) e), fun e => K3.out (hne.out 3 (by decide) e), fun e => K4.out (hne.out 4 (by decide) e), fun e => K5.out (hne.out 5 (by decide) e), fun e => K6.out (hne.out 6 (by decide) e), fun e => K7.out (hne.out 7 (by decide) e), fun _ => rfl, fun e => K9.out (hne.out 9 (by decide) e), fun e => K10.out (hne.out 10 (by decide) e), fun e => K11.out (hne.out 11 (by decide) e), fun e => K12.out (hne.out 12 (by decide) e), fun e => K13.out (hne.out 13 (by decide) e), fun e => K14.out (hne.out 14 (by decide) e), fun e => K15.out (hne.out 15 (by decide) e), fun e => K16.out (hne.out 16 (by decide) e), fun e => K17.out (hne.out 17 (by decide) e), fun e => K18.out (hne.out 18 (by decide) e), hB⟩
                    · cases ho
                      have d8 := hd ⟨8, .data⟩ (by simp) rfl
                      obtain rfl := K8.out d8
                      have hcg := hck.out wx hOx
                      refine wpOp_step rfl (fun K hK => ?_)
                      go_simp
                      refine hK _ _ ⟨by simpa using hz, v59, v60, v61, v62, v63, v64, v65, v66, .pointer (some ⟨G, x0, none⟩), .int .i64 kx, v69, v70, v71, v72, v73, v74, v75, v76, v77, rfl, ?_⟩
                      exact ⟨fun e => K0.out (hne.out 0 (by decide) e), fun e => K1.out (hne.out 1 (by decide) e), fun e => K2.out (hne.out 2 (by decide) e), fun e => K3.out (hne.out 3 (by decide) e), fun e => K4.out (hne.out 4 (by decide) e), fun e => K5.out (hne.out 5 (by decide) e), fun e => K6.out (hne.out 6 (by decide) e), fun e => K7.out (hne.out 7 (by decide) e), fun e => K8.out (hne.out 8 (by decide) e), fun _ => rfl, fun e => K10.out (hne.out 10 (by decide) e), fun e => K11.out (hne.out 11 (by decide) e), fun e => K12.out (hne.out 12 (by decide) e), fun e => K13.out (hne.out 13 (by decide) e), fun e => K14.out (hne.out 14 (by decide) e), fun e => K15.out (hne.out 15 (by decide) e), fun e => K16.out (hne.out 16 (by decide) e), fun e => K17.out (hne.out 17 (by decide) e), fun e => K18.out (hne.out 18 (by decide) e), hB⟩
                    · cases ho
                      refine wpOp_step rfl (fun K hK => ?_)
                      go_simp
                      refine hK _ _ ⟨by simpa using hz, v59, v60, v61, v62, v63, v64, v65, v66, v67, v68, .slice (some ⟨gl, off, none⟩) n c, v70, v71, v72, v73, v74, v75, v76, v77, rfl, ?_⟩
                      exact ⟨fun e => K0.out (hne.out 0 (by decide) e), fun e => K1.out (hne.out 1 (by decide) e), fun e => K2.out (hne.out 2 (by decide) e), fun e => K3.out (hne.out 3 (by decide) e), fun e => K4.out (hne.out 4 (by decide) e), fun e => K5.out (hne.out 5 (by decide) e), fun e => K6.out (hne.out 6 (by decide) e), fun e => K7.out (hne.out 7 (by decide) e), fun e => K8.out (hne.out 8 (by decide) e), fun e => K9.out (hne.out 9 (by decide) e), fun _ => rfl, fun e => K11.out (hne.out 11 (by decide) e), fun e => K12.out (hne.out 12 (by decide) e), fun e => K13.out (hne.out 13 (by decide) e), fun e => K14.out (hne.out 14 (by decide) e), fun e => K15.out (hne.out 15 (by decide) e), fun e => K16.out (hne.out 16 (by decide) e), fun e => K17.out (hne.out 17 (by decide) e), fun e => K18.out (hne.out 18 (by decide) e), hB⟩
                    · cases ho
                      refine wpOp_step rfl (fun K hK => ?_)
                      go_simp
                      refine hK _ _ ⟨by simpa using hz, v59, v60, v61, v62, v63, v64, v65, v66, v67, v68, v69, .int .i64 ↑k0, v71, v72, v73, v74, v75, v76, v77, rfl, ?_⟩
                      exact ⟨fun e => K0.out (hne.out 0 (by decide) e), fun e => K1.out (hne.out 1 (by decide) e), fun e => K2.out (hne.out 2 (by decide) e), fun e => K3.out (hne.out 3 (by decide) e), fun e => K4.out (hne.out 4 (by decide) e), fun e => K5.out (hne.out 5 (by decide) e), fun e => K6.out (hne.out 6 (by decide) e), fun e => K7.out (hne.out 7 (by decide) e), fun e => K8.out (hne.out 8 (by decide) e), fun e => K9.out (hne.out 9 (by decide) e), fun e => K10.out (hne.out 10 (by decide) e), fun _ => rfl, fun e => K12.out (hne.out 12 (by decide) e), fun e => K13.out (hne.out 13 (by decide) e), fun e => K14.out (hne.out 14 (by decide) e), fun e => K15.out (hne.out 15 (by decide) e), fun e => K16.out (hne.out 16 (by decide) e), fun e => K17.out (hne.out 17 (by decide) e), fun e => K18.out (hne.out 18 (by decide) e), hB⟩
                    · cases ho
                      have d10 := hd ⟨10, .data⟩ (by simp) rfl
                      have d11 := hd ⟨11, .data⟩ (by simp) rfl
                      obtain rfl := K10.out d10
                      obtain rfl := K11.out d11
                      refine wpOp_step rfl (fun K hK => ?_)
                      go_simp
                      refine hK _ _ ⟨by simpa using hz, v59, v60, v61, v62, v63, v64, v65, v66, v67, v68, .slice (some ⟨gl, off, none⟩) n c, .int .i64 ↑k0, .pointer (some ⟨gl, off + k0 * 2, none⟩), v72, v73, v74, v75, v76, v77, rfl, ?_⟩
                      exact ⟨fun e => K0.out (hne.out 0 (by decide) e), fun e => K1.out (hne.out 1 (by decide) e), fun e => K2.out (hne.out 2 (by decide) e), fun e => K3.out (hne.out 3 (by decide) e), fun e => K4.out (hne.out 4 (by decide) e), fun e => K5.out (hne.out 5 (by decide) e), fun e => K6.out (hne.out 6 (by decide) e), fun e => K7.out (hne.out 7 (by decide) e), fun e => K8.out (hne.out 8 (by decide) e), fun e => K9.out (hne.out 9 (by decide) e), fun e => K10.out (hne.out 10 (by decide) e), fun e => K11.out (hne.out 11 (by decide) e), fun _ => rfl, fun e => K13.out (hne.out 13 (by decide) e), fun e => K14.out (hne.out 14 (by decide) e), fun e => K15.out (hne.out 15 (by decide) e), fun e => K16.out (hne.out 16 (by decide) e), fun e => K17.out (hne.out 17 (by decide) e), fun e => K18.out (hne.out 18 (by decide) e), hB⟩
                    · cases ho
                      have d12 := hd ⟨12, .data⟩ (by simp) rfl
                      obtain rfl := K12.out d12
                      have hca := hc1.out wx hBx
                      have hcb := hc2.out wx hBx
                      refine wpOp_step rfl (fun K hK => ?_)
                      go_simp
                      refine hK _ _ ⟨by simpa using hz, v59, v60, v61, v62, v63, v64, v65, v66, v67, v68, v69, v70, .pointer (some ⟨gl, off + k0 * 2, none⟩), .agg #[.slice B1 2 e1, .slice B2 m2 e2], v73, v74, v75, v76, v77, rfl, ?_⟩
                      exact ⟨fun e => K0.out (hne.out 0 (by decide) e), fun e => K1.out (hne.out 1 (by decide) e), fun e => K2.out (hne.out 2 (by decide) e), fun e => K3.out (hne.out 3 (by decide) e), fun e => K4.out (hne.out 4 (by decide) e), fun e => K5.out (hne.out 5 (by decide) e), fun e => K6.out (hne.out 6 (by decide) e), fun e => K7.out (hne.out 7 (by decide) e), fun e => K8.out (hne.out 8 (by decide) e), fun e => K9.out (hne.out 9 (by decide) e), fun e => K10.out (hne.out 10 (by decide) e), fun e => K11.out (hne.out 11 (by decide) e), fun e => K12.out (hne.out 12 (by decide) e), fun _ => rfl, fun e => K14.out (hne.out 14 (by decide) e), fun e => K15.out (hne.out 15 (by decide) e), fun e => K16.out (hne.out 16 (by decide) e), fun e => K17.out (hne.out 17 (by decide) e), fun e => K18.out (hne.out 18 (by decide) e), hB⟩
                    · cases ho
                      refine wpOp_step rfl (fun K hK => ?_)
                      go_simp
                      refine hK _ _ ⟨by simpa using hz, v59, v60, v61, v62, v63, v64, v65, v66, v67, v68, v69, v70, v71, v72, .int .i64 s2, v74, v75, v76, v77, rfl, ?_⟩
                      exact ⟨fun e => K0.out (hne.out 0 (by decide) e), fun e => K1.out (hne.out 1 (by decide) e), fun e => K2.out (hne.out 2 (by decide) e), fun e => K3.out (hne.out 3 (by decide) e), fun e => K4.out (hne.out 4 (by decide) e), fun e => K5.out (hne.out 5 (by decide) e), fun e => K6.out (hne.out 6 (by decide) e), fun e => K7.out (hne.out 7 (by decide) e), fun e => K8.out (hne.out 8 (by decide) e), fun e => K9.out (hne.out 9 (by decide) e), fun e => K10.out (hne.out 10 (by decide) e), fun e => K11.out (hne.out 11 (by decide) e), fun e => K12.out (hne.out 12 (by decide) e), fun e => K13.out (hne.out 13 (by decide) e), fun _ => rfl, fun e => K15.out (hne.out 15 (by decide) e), fun e => K16.out (hne.out 16 (by decide) e), fun e => K17.out (hne.out 17 (by decide) e), fun e => K18.out (hne.out 18 (by decide) e), hB⟩
                    · cases ho
                      have d13 := hd ⟨13, .data⟩ (by simp) rfl
                      have d14 := hd ⟨14, .data⟩ (by simp) rfl
                      obtain rfl := K13.out d13
                      obtain rfl := K14.out d14
                      refine wpOp_step rfl (fun K hK => ?_)
                      go_simp
                      go_at_call 145
                      refine (cI.out _ hNx).mono ?_
                      rintro e w3 ⟨rfl, hb3⟩
                      refine hK _ _ ⟨by simpa using hz, v59, v60, v61, v62, v63, v64, v65, v66, v67, v68, v69, v70, v71, .agg #[.slice B1 2 e1, .slice B2 m2 e2], .int .i64 s2, .int .i64 z, v75, v76, v77, rfl, ?_⟩
                      exact ⟨fun e => K0.out (hne.out 0 (by decide) e), fun e => K1.out (hne.out 1 (by decide) e), fun e => K2.out (hne.out 2 (by decide) e), fun e => K3.out (hne.out 3 (by decide) e), fun e => K4.out (hne.out 4 (by decide) e), fun e => K5.out (hne.out 5 (by decide) e), fun e => K6.out (hne.out 6 (by decide) e), fun e => K7.out (hne.out 7 (by decide) e), fun e => K8.out (hne.out 8 (by decide) e), fun e => K9.out (hne.out 9 (by decide) e), fun e => K10.out (hne.out 10 (by decide) e), fun e => K11.out (hne.out 11 (by decide) e), fun e => K12.out (hne.out 12 (by decide) e), fun e => K13.out (hne.out 13 (by decide) e), fun e => K14.out (hne.out 14 (by decide) e), fun _ => rfl, fun e => K16.out (hne.out 16 (by decide) e), fun e => K17.out (hne.out 17 (by decide) e), fun e => K18.out (hne.out 18 (by decide) e), hB.trans (hb3.mono hB.size)⟩
                    · cases ho
                      have d9 := hd ⟨9, .data⟩ (by simp) rfl
                      have d15 := hd ⟨15, .data⟩ (by simp) rfl
                      obtain rfl := K9.out d9
                      obtain rfl := K15.out d15
                      refine wpOp_step rfl (fun K hK => ?_)
                      go_simp
                      refine hK _ _ ⟨by simpa using hz, v59, v60, v61, v62, v63, v64, v65, v66, v67, .int .i64 kx, v69, v70, v71, v72, v73, .int .i64 z, .int .i64 (IntKind.i64.wrap (kx * z)), v76, v77, rfl, ?_⟩
                      exact ⟨fun e => K0.out (hne.out 0 (by decide) e), fun e => K1.out (hne.out 1 (by decide) e), fun e => K2.out (hne.out 2 (by decide) e), fun e => K3.out (hne.out 3 (by decide) e), fun e => K4.out (hne.out 4 (by decide) e), fun e => K5.out (hne.out 5 (by decide) e), fun e => K6.out (hne.out 6 (by decide) e), fun e => K7.out (hne.out 7 (by decide) e), fun e => K8.out (hne.out 8 (by decide) e), fun e => K9.out (hne.out 9 (by decide) e), fun e => K10.out (hne.out 10 (by decide) e), fun e => K11.out (hne.out 11 (by decide) e), fun e => K12.out (hne.out 12 (by decide) e), fun e => K13.out (hne.out 13 (by decide) e), fun e => K14.out (hne.out 14 (by decide) e), fun e => K15.out (hne.out 15 (by decide) e), fun _ => rfl, fun e => K17.out (hne.out 17 (by decide) e), fun e => K18.out (hne.out 18 (by decide) e), hB⟩
                    · cases ho
                      have d5 := hd ⟨5, .data⟩ (by simp) rfl
                      have d16 := hd ⟨16, .data⟩ (by simp) rfl
                      obtain rfl := K5.out d5
                      obtain rfl := K16.out d16
                      refine wpOp_step rfl (fun K hK => ?_)
                      go_simp
                      refine hK _ _ ⟨by simpa using hz, v59, v60, v61, v62, v63, .int .i64 mp, v65, v66, v67, v68, v69, v70, v71, v72, v73, v74, .int .i64 (IntKind.i64.wrap (kx * z)), .int .i64 mn, v77, rfl, ?_⟩
                      exact ⟨fun e => K0.out (hne.out 0 (by decide) e), fun e => K1.out (hne.out 1 (by decide) e), fun e => K2.out (hne.out 2 (by decide) e), fun e => K3.out (hne.out 3 (by decide) e), fun e => K4.out (hne.out 4 (by decide) e), fun e => K5.out (hne.out 5 (by decide) e), fun e => K6.out (hne.out 6 (by decide) e), fun e => K7.out (hne.out 7 (by decide) e), fun e => K8.out (hne.out 8 (by decide) e), fun e => K9.out (hne.out 9 (by decide) e), fun e => K10.out (hne.out 10 (by decide) e), fun e => K11.out (hne.out 11 (by decide) e), fun e => K12.out (hne.out 12 (by decide) e), fun e => K13.out (hne.out 13 (by decide) e), fun e => K14.out (hne.out 14 (by decide) e), fun e => K15.out (hne.out 15 (by decide) e), fun e => K16.out (hne.out 16 (by decide) e), fun _ => rfl, fun e => K18.out (hne.out 18 (by decide) e), hB⟩
                    · cases ho
                      have d0 := hd ⟨0, .data⟩ (by simp) rfl
                      have d1 := hd ⟨1, .data⟩ (by simp) rfl
                      obtain rfl := K0.out d0
                      obtain rfl := K1.out d1
                      refine wpOp_step rfl (fun K hK => ?_)
                      go_simp
                      refine hK _ _ ⟨by simpa using hz, .slice (some ⟨M, 0, none⟩) 3 3, .int .i64 ↑j, v61, v62, v63, v64, v65, v66, v67, v68, v69, v70, v71, v72, v73, v74, v75, v76, .pointer (some ⟨M, j, none⟩), rfl, ?_⟩
                      exact ⟨fun e => K0.out (hne.out 0 (by decide) e), fun e => K1.out (hne.out 1 (by decide) e), fun e => K2.out (hne.out 2 (by decide) e), fun e => K3.out (hne.out 3 (by decide) e), fun e => K4.out (hne.out 4 (by decide) e), fun e => K5.out (hne.out 5 (by decide) e), fun e => K6.out (hne.out 6 (by decide) e), fun e => K7.out (hne.out 7 (by decide) e), fun e => K8.out (hne.out 8 (by decide) e), fun e => K9.out (hne.out 9 (by decide) e), fun e => K10.out (hne.out 10 (by decide) e), fun e => K11.out (hne.out 11 (by decide) e), fun e => K12.out (hne.out 12 (by decide) e), fun e => K13.out (hne.out 13 (by decide) e), fun e => K14.out (hne.out 14 (by decide) e), fun e => K15.out (hne.out 15 (by decide) e), fun e => K16.out (hne.out 16 (by decide) e), fun e => K17.out (hne.out 17 (by decide) e), fun _ => rfl, hB⟩
                  case hl =>
                    rintro listed aq wx ⟨hz, v59, v60, v61, v62, v63, v64, v65, v66, v67, v68, v69, v70, v71, v72, v73, v74, v75, v76, v77, rfl, hII⟩ hall
                    have K0 := Lib.hid hII.1
                    have K1 := Lib.hid hII.2.1
                    have K2 := Lib.hid hII.2.2.1
                    have K3 := Lib.hid hII.2.2.2.1
                    have K4 := Lib.hid hII.2.2.2.2.1
                    have K5 := Lib.hid hII.2.2.2.2.2.1
                    have K6 := Lib.hid hII.2.2.2.2.2.2.1
                    have K7 := Lib.hid hII.2.2.2.2.2.2.2.1
                    have K8 := Lib.hid hII.2.2.2.2.2.2.2.2.1
                    have K9 := Lib.hid hII.2.2.2.2.2.2.2.2.2.1
                    have K10 := Lib.hid hII.2.2.2.2.2.2.2.2.2.2.1
                    have K11 := Lib.hid hII.2.2.2.2.2.2.2.2.2.2.2.1
                    have K12 := Lib.hid hII.2.2.2.2.2.2.2.2.2.2.2.2.1
                    have K13 := Lib.hid hII.2.2.2.2.2.2.2.2.2.2.2.2.2.1
                    have K14 := Lib.hid hII.2.2.2.2.2.2.2.2.2.2.2.2.2.2.1
                    have K15 := Lib.hid hII.2.2.2.2.2.2.2.2.2.2.2.2.2.2.2.1
                    have K16 := Lib.hid hII.2.2.2.2.2.2.2.2.2.2.2.2.2.2.2.2.1
                    have K17 := Lib.hid hII.2.2.2.2.2.2.2.2.2.2.2.2.2.2.2.2.2.1
                    have K18 := Lib.hid hII.2.2.2.2.2.2.2.2.2.2.2.2.2.2.2.2.2.2.1
                    have hB : Below w'.heap.size w' wx := hII.2.2.2.2.2.2.2.2.2.2.2.2.2.2.2.2.2.2.2
                    have hMx : IOwn wx w.heap.size (.slice (some ⟨M, 0, none⟩) 3 3) (row3 (midK Mp Mn j)) := hMj.out.below hB
                    have hOx : IOwn wx w.heap.size (.slice (some ⟨G, 0, none⟩) 3 cG) (row3 Kn) := hOj.out.below hB
                    have hBx : Below w.heap.size w wx := hBj.out.trans (hB.mono hBj.out.size)
                    have hNx : FacW wx wx.heap.size B1 2 B2 m2 F := hFWh.out wx hBx
                    clear hII
                    obtain rfl := K0.out (hall 0 (by decide))
                    obtain rfl := K1.out (hall 1 (by decide))
                    obtain rfl := K2.out (hall 2 (by decide))
                    obtain rfl := K3.out (hall 3 (by decide))
                    obtain rfl := K4.out (hall 4 (by decide))
                    obtain rfl := K5.out (hall 5 (by decide))
                    obtain rfl := K6.out (hall 6 (by decide))
                    obtain rfl := K7.out (hall 7 (by decide))
                    obtain rfl := K8.out (hall 8 (by decide))
                    obtain rfl := K9.out (hall 9 (by decide))
                    obtain rfl := K10.out (hall 10 (by decide))
                    obtain rfl := K11.out (hall 11 (by decide))
                    obtain rfl := K12.out (hall 12 (by decide))
                    obtain rfl := K13.out (hall 13 (by decide))
                    obtain rfl := K14.out (hall 14 (by decide))
                    obtain rfl := K15.out (hall 15 (by decide))
                    obtain rfl := K16.out (hall 16 (by decide))
                    obtain rfl := K17.out (hall 17 (by decide))
                    obtain rfl := K18.out (hall 18 (by decide))
                    clear hall K0 K1 K2 K3 K4 K5 K6 K7 K8 K9 K10 K11 K12 K13 K14 K15 K16 K17 K18
                    have hcc := (hcm.out wx hMx).1
                    have hff := (hcm.out wx hMx).2
                    refine wpOp_step rfl (fun K0 hK0 => ?_)
                    go_simp
                    refine hK0 _ _ ?_
                    clear hK0
                    have hN := Lib.hid (show IOwn (wx.setCell ⟨M, j, none⟩ (.int .i64 mn)) w.heap.size (.slice (some ⟨M, 0, none⟩) 3 3) (row3 (midK Mp Mn (j + 1))) from by
                      rw [← midK_step, hmnh.out, ← row3_set _ (by omega)]
                      exact iown_set (ds := row3 (midK Mp Mn j)) hMx (show j < 3 from hlj) _)
                    have hOn := Lib.hid (IOwn.but hOx ((KeptBut.refl wx (fun i => i = M)).put (p := ⟨M, j, none⟩) (fun _ => rfl) (.int .i64 mn)) (fun k h1 h2 => hGM (by injection h1 with e; exact e.trans h2)))
                    have hBn := Lib.hid (hBx.setCell (p := ⟨M, j, none⟩) hzM (.int .i64 mn))
                    clear hMx hOx hBx hNx hcc hff hB
                    go_wp2_with fail
                    go_roundg (3 - (j + 1))
                    case measure => omega
                    case rel => exact ⟨j + 1, by omega, rfl, by go_num, hN.out, hOn.out, hBn.out⟩
                · obtain rfl : j = 3 := by omega
                  have hPe := Lib.hid (show IOwn wr w.heap.size (.slice (some ⟨M, 0, none⟩) 3 3) (row3 (fun y => IntKind.i64.wrap (mAcc Fs g u t y F (S0 y) (x0 + 1)))) from by
                    rw [hMnh.out, ← row3_congr (f := midK Mp Mn 3) (h := Mn) (fun x hx => by unfold midK; rw [if_pos (by omega)])]
                    exact hMj.out)
                  go_wp2_with fail
                  go_roundg (3 - (x0 + 1))
                  case measure => omega
                  case rel => exact ⟨x0 + 1, by omega, rfl, by go_num, hPe.out, hOj.out, hBj.out⟩
            · obtain rfl : x = 3 := by omega
              have hE := Lib.hid (show IOwn wr w.heap.size (.slice (some ⟨M, 0, none⟩) 3 3) (row3 (fun y => IntKind.i64.wrap (mLk Fs g u t y (Fs.take (k0 + 1))))) from by
                rw [row3_congr (h := fun y => IntKind.i64.wrap (mAcc Fs g u t y F (S0 y) 3)) (fun y _ => by rw [hyes.out y, hS0h.out y])]
                exact hMx.out)
              go_wp2_with fail
              go_roundg (n - (k0 + 1))
              case measure => omega
              case rel => exact ⟨k0 + 1, by omega, rfl, by go_num, hE.out, hOx.out, hBx.out⟩
        · rw [decide_eq_false hs] at hiP
          have hno := Lib.hid (show IOwn wr w.heap.size (.slice (some ⟨M, 0, none⟩) 3 3) (row3 (fun y => IntKind.i64.wrap (mLk Fs g u t y (Fs.take (k + 1))))) from by
            rw [row3_congr (h := fun y => IntKind.i64.wrap (mLk Fs g u t y (Fs.take k))) (fun y _ => by rw [hstk.out y, if_neg (by rw [hiP]; decide)])]
            exact hMk.out)
          obtain ⟨pp, hpp⟩ : ∃ pp : Int, ((2 ^ u + 2 ^ t : Nat) : Int) = pp := ⟨_, rfl⟩
          rw [hpp] at hor hs
          have hne : (setOf F.vs != pp) = true := by rw [bne_iff_ne]; exact hs
          generalize setOf F.vs = sv at cS hne
          have cSw := Lib.hid (fun q => ((cS.out (wr.drewN q) (hFWv.out _ (below_drewN hBk.out q))).mono fun _ _ p => (show _ ∧ _ = wr.drewN q from ⟨p.1, p.2.symm⟩)))
          clear hiP hs hpp hFk hFo q1 q2 q3 q4 q5 hm1 hFW cS hiPh
          go_wp2_with fail
          go_quiet (first | (go_at_call 138; exact Calls.quiet_of_same (cSw.out _)))
          have hbd := below_drewN (Below.refl wr.heap.size wr) nq
          have hM5 := Lib.hid (hno.out.below hbd)
          have hO5 := Lib.hid (hOk.out.below hbd)
          have hB5 := Lib.hid (below_drewN hBk.out nq)
          generalize wr.drewN nq = W5 at hM5 hO5 hB5 ⊢
          clear hbd
          go_wp2_with fail
          go_roundg (n - (k + 1))
          case measure => omega
          case rel => exact ⟨k + 1, by omega, rfl, by go_num, hM5.out, hO5.out, hB5.out⟩
      · have hiP := hnoP.out F (by omega)
        have hno := Lib.hid (show IOwn wr w.heap.size (.slice (some ⟨M, 0, none⟩) 3 3) (row3 (fun y => IntKind.i64.wrap (mLk Fs g u t y (Fs.take (k + 1))))) from by
          rw [row3_congr (h := fun y => IntKind.i64.wrap (mLk Fs g u t y (Fs.take k))) (fun y _ => by rw [hstk.out y, if_neg (by rw [hiP]; decide)])]
          exact hMk.out)
        have hne : ((m1 : Int) != 2) = true := by rw [bne_iff_ne]; omega
        have h2h := Lib.hid h2
        clear hiP hFk hFo q1 q2 q3 q4 q5 hm1 hFW cS h2
        go_wp2_with fail
        go_quiet (fail)
        have hbd := below_drewN (Below.refl wr.heap.size wr) nq
        have hM5 := Lib.hid (hno.out.below hbd)
        have hO5 := Lib.hid (hOk.out.below hbd)
        have hB5 := Lib.hid (below_drewN hBk.out nq)
        generalize wr.drewN nq = W5 at hM5 hO5 hB5 ⊢
        clear hbd
        go_wp2_with fail
        go_roundg (n - (k + 1))
        case measure => omega
        case rel => exact ⟨k + 1, by omega, rfl, by go_num, hM5.out, hO5.out, hB5.out⟩
    · obtain rfl : k = n := by omega
      have hfull : Fs.take k = Fs := List.take_of_length_le (by omega)
      have hE := Lib.hid (row3_congr (f := fun y => IntKind.i64.wrap (mLk Fs g u t y (Fs.take k))) (h := fun y => IntKind.i64.wrap (msgT Fs g u t y)) (fun y _ => by rw [hfull, hall.out y]))
      rw [hE.out] at hMk
      clear hfull
      go_wp2_with fail
      go_ret
      exact ⟨M, 3, rfl, hMk.out, hBk.out⟩
end Go.Proofs.Ytghkpmafocacoaa
