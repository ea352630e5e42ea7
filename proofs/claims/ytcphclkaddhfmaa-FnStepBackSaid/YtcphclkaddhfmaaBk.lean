/- One statement backward: the model's l5One. -/
import Derived.Test.YtcphclkaddhfmaaBh
import Derived.Test.YtcphclkaddhfmaaTs
import Derived.Deep.AppendLies
namespace Go.Proofs.Ytcphclkaddhfmaa
set_option maxRecDepth 100000
set_option linter.unusedVariables false
open Go.RowKit

theorem stmt_int : (49 : TypeId) ≠ 3 := by decide
theorem int_run2 : (3 : TypeId) ≠ 116 := by decide
theorem stmt_run2 : (49 : TypeId) ≠ 116 := by decide
/-- The first values of a draw. -/
def psum (s : St) (h : Int → Int) (st : Int) : Nat → Int
  | 0 => 0
  | x + 1 => psum s h st x + s.fac (s.next st x) * h (s.next st x)
theorem psum_bd {s : St} {h : Int → Int} {st : Int} (hok : s.ok = true) (hs : 0 ≤ st ∧ st ≤ 80) (hX : ∀ st, 0 ≤ st ∧ st ≤ 80 → 0 ≤ h st ∧ h st ≤ 100000000000000000) : ∀ x : Nat, x ≤ 3 → 0 ≤ psum s h st x ∧ psum s h st x ≤ x * 900000000000000000
  | 0, _ => by simp [psum]
  | x + 1, hx => by
    have ih := psum_bd hok hs hX x (by omega)
    have e0 := fac_bd hok (s.next st x)
    have e1 := hX _ (next_bd hok hs (x := (x : Int)) (by omega))
    have e3 := Int.mul_nonneg e0.1 e1.1
    have e4 := Int.mul_le_mul_of_nonneg_right e0.2 e1.1
    rw [psum]
    omega
theorem one_draw {s : St} {h : Int → Int} {st : Int} (hd : s.draws = true) : valAt h [s] 0 st = psum s h st 3 := by
  have e : ∀ y, valAt h [s] 1 y = h y := fun y => valAt_end (h := h) (os := [s]) (i := 1) (Nat.le_refl _) y
  rw [valAt_draw (s := s) rfl hd, e, e, e]
  simp [psum]
theorem one_own {s : St} {h : Int → Int} {st : Int} (hd : s.draws = false) : valAt h [s] 0 st = s.fac (s.next st 0) * h (s.next st 0) := by
  rw [valAt_own (s := s) rfl hd, valAt_end (by show 1 ≤ 0 + 1 + s.jump st; omega)]
/-- The first numbers of a row. -/
def rowP (g : Int → Int) (k : Nat) : List Int := (rowL g).take k
theorem rowP_len {g : Int → Int} {k : Nat} (hk : k ≤ 81) : (rowP g k).length = k := by
  unfold rowP
  rw [List.length_take, rowL_length]; omega
theorem rowP_succ {g : Int → Int} {k : Nat} (hk : k < 81) : rowP g (k + 1) = rowP g k ++ [g k] := by
  unfold rowP
  rw [List.take_add_one, rowL_at hk]; rfl
theorem rowP_all (g : Int → Int) : rowP g 81 = rowL g := List.take_of_length_le (by rw [rowL_length]; exact Nat.le_refl _)
theorem next_with {s : St} (hd : s.draws = true) (st x : Int) : s.next st x = withValue st s.a x := by
  unfold St.next
  have : s.k = 2 ∨ s.k = 3 := by
    unfold St.draws at hd
    simpa using hd
  rw [if_neg (by omega), if_neg (by omega), if_pos this]

set_option maxHeartbeats 1000000 in
theorem l5One_any (s : St) (A : Option Addr) (c : Nat) (ds : List Int) (w : World) (h : Ils w w.heap.size A 81 ds) (hok : s.ok = true) (h7 : s.notLoop = true) (hX : ∀ st, 0 ≤ st ∧ st ≤ 80 → 0 ≤ hOf ds st ∧ hOf ds st ≤ 100000000000000000) :
    Calls Try.prog 64 #[.agg #[.int .i64 s.k, .int .i64 s.a, .int .i64 s.b, .int .i64 s.c, .int .i64 s.u, .int .i64 s.v, .int .i64 s.x], .slice A 81 c] w (Wtsd w (rowL (valAt (hOf ds) [s] 0))) := by
  have hI := Lib.hid h
  have hOk := Lib.hid hok
  have hXb := Lib.hid hX
  obtain ⟨i0, hi0, hz0, hz1', hz2'⟩ := info_parts info_int
  have hS0 := Has.new w 49 #[.int .i64 s.k, .int .i64 s.a, .int .i64 s.b, .int .i64 s.c, .int .i64 s.u, .int .i64 s.v, .int .i64 s.x]
  have hB0 : Below w.heap.size w (w.alloc (.cells #[.int .i64 s.k, .int .i64 s.a, .int .i64 s.b, .int .i64 s.c, .int .i64 s.u, .int .i64 s.v, .int .i64 s.x] 49)) := (Below.refl _ _).alloc (Nat.le_refl _) _
  have hsa : 0 ≤ s.a ∧ s.a ≤ 3 := by
    have := ok_rng (k := s.k) (a := s.a) (b := s.b) (c := s.c) (u := s.u) (v := s.v) (x := s.x) hok
    omega
  have hN0 := Lib.hid (show IOwn ((w.alloc (.cells #[.int .i64 s.k, .int .i64 s.a, .int .i64 s.b, .int .i64 s.c, .int .i64 s.u, .int .i64 s.v, .int .i64 s.x] 49)).alloc (.cells #[] 3)) w.heap.size (.slice (some ⟨w.heap.size + 1, 0, none⟩) 0 0) (rowP (valAt (hOf ds) [s] 0) 0) from by
    have h9 := Has.new (w.alloc (.cells #[.int .i64 s.k, .int .i64 s.a, .int .i64 s.b, .int .i64 s.c, .int .i64 s.u, .int .i64 s.v, .int .i64 s.x] 49)) 3 #[]
    rw [show (w.alloc (.cells #[.int .i64 s.k, .int .i64 s.a, .int .i64 s.b, .int .i64 s.c, .int .i64 s.u, .int .i64 s.v, .int .i64 s.x] 49)).heap.size = w.heap.size + 1 by simp] at h9
    exact ⟨rfl, .inr ⟨w.heap.size + 1, 0, #[], rfl, by omega, h9, Nat.le_refl _, Nat.zero_le _, rfl, rfl⟩⟩)
  have hS1 := Lib.hid (hS0.alloc (.cells #[] 3))
  have hB1 := Lib.hid (hB0.alloc (by simp) (.cells #[] 3))
  have cD := Lib.hid (fun wx => l2Draws_any s wx)
  clear h hX hS0 hB0
  go_enter Try.func64, Try.ntmps64
  go_wp2_with fail
  generalize hBB : w.heap.size = B at hN0 hS1 hB1 ⊢
  have hBb := Lib.hid hBB
  clear hBB
  generalize ((w.alloc (.cells #[.int .i64 s.k, .int .i64 s.a, .int .i64 s.b, .int .i64 s.c, .int .i64 s.u, .int .i64 s.v, .int .i64 s.x] 49)).alloc (.cells #[] 3)) = W0 at hN0 hS1 hB1 ⊢
  go_loopg [5, 6] 81 (fun gn o q wr => ∃ k : Nat, k ≤ 81 ∧ gn = 81 - k ∧ q = .int .i64 k ∧ IOwn wr B o (rowP (valAt (hOf ds) [s] 0) k) ∧ Has wr B 49 #[.int .i64 s.k, .int .i64 s.a, .int .i64 s.b, .int .i64 s.c, .int .i64 s.u, .int .i64 s.v, .int .i64 s.x] ∧ Below B w wr)
  case atStart => exact ⟨0, by omega, rfl, rfl, hN0.out, hS1.out, hB1.out⟩
  case round =>
    clear hN0 hS1 hB1
    obtain ⟨k, hk, hgn, rfl, hO, hSr, hbr⟩ := hrel
    obtain ⟨gk1, rfl⟩ : ∃ x, x = gk := ⟨_, rfl⟩
    obtain ⟨w1, rfl⟩ : ∃ x, x = wr := ⟨_, rfl⟩
    have hgk : gk1 = 81 - k := hgn
    clear hgn
    obtain ⟨Ao, co, hvo, hco1, hco2⟩ := hO.form
    have hlk : (rowP (valAt (hOf ds) [s] 0) k).length = k := rowP_len hk
    rw [hlk] at hvo
    subst hvo
    have hO' := Lib.hid hO
    have hS' := Lib.hid hSr
    have hb' := Lib.hid hbr
    clear hO hSr hbr
    by_cases hlt : k < 81
    · have hks : (0 : Int) ≤ (k : Int) ∧ (k : Int) ≤ 80 := by omega
      have hk0 : (0 : Int) ≤ (k : Int) := by omega
      have hk1 : (k : Int) < 81 := by omega
      have hSn := Lib.hid (rowP_succ (g := valAt (hOf ds) [s] 0) hlt)
      have hcs1 := hS'.out.cell
      cases hd : s.draws
      · rw [hd] at cD
        have hdo := Lib.hid hd
        go_wp2_with (first | (go_at_call 96; refine (cD.out _).mono ?_; rintro e w2 ⟨rfl, hb2⟩; have hS2h := Lib.hid (hS'.out.kept hb2); have hcs2 := (hS2h.out.alloc (.cells #[.int .i64 0, .int .i64 k, .int .i64 1] 116)).cell))
        have hO2 := Lib.hid ((hO'.out.below hb2).alloc (.cells #[.int .i64 0, .int .i64 k, .int .i64 1] 116))
        have hS2 := Lib.hid (hS2h.out.alloc (.cells #[.int .i64 0, .int .i64 k, .int .i64 1] 116))
        have hbz := hb'.out.size
        have hB1w : B ≤ w1.heap.size := by have := hBb.out; omega
        have hB2w : B ≤ w2.heap.size := Nat.le_trans hB1w hb2.size
        have hB2 := Lib.hid ((hb'.out.trans (hb2.mono hB1w)).alloc hB2w (.cells #[.int .i64 0, .int .i64 k, .int .i64 1] 116))
        have hR2 := Lib.hid (Has.new w2 116 #[.int .i64 0, .int .i64 k, .int .i64 1])
        have hfit : Rn.fit ⟨0, k, 1⟩ := ⟨hks.1, hks.2, show (0 : Int) ≤ 1 by decide, show (1 : Int) ≤ 9 ^ 0 by decide⟩
        have cO := Lib.hid (fun wx R (hR : Has wx R 116 #[.int .i64 0, .int .i64 k, .int .i64 1]) => l2Own_any s ⟨0, k, 1⟩ R wx hOk.out hdo.out h7 hfit (show 0 ≤ 12 by decide) hR)
        have hV := Lib.hid (one_own (h := hOf ds) (st := (k : Int)) hdo.out)
        have hfb := fac_bd hOk.out (s.next k 0)
        have hnb := next_bd hOk.out hks (x := 0) (by decide)
        have hvb := hXb.out _ hnb
        have hm1 := Int.mul_nonneg hfb.1 hvb.1
        have hm2 := Int.mul_le_mul_of_nonneg_right hfb.2 hvb.1
        have hst : (Rn.step s ⟨0, k, 1⟩ 0).st = s.next k 0 := rfl
        have hwt : (Rn.step s ⟨0, k, 1⟩ 0).wt = s.fac (s.next k 0) := by show 1 * _ = _; rw [Int.one_mul]
        rw [hst, hwt] at cO
        generalize (Rn.step s ⟨0, k, 1⟩ 0).pos = ps at cO
        generalize s.next k 0 = y0 at cO hV hfb hnb hvb hm1 hm2
        obtain ⟨y, rfl⟩ : ∃ y : Nat, y0 = (y : Int) := ⟨y0.toNat, by omega⟩
        have hy0 : (0 : Int) ≤ (y : Int) := by omega
        have hy1 : (y : Int) < 81 := by omega
        have hy81 : y < 81 := by omega
        generalize s.fac (y : Int) = f at cO hV hfb hm1 hm2
        clear hb2 hcs1 hst hwt hfit
        generalize hRR : w2.heap.size = R at hR2 hB2w ⊢
        generalize w2.alloc (.cells #[.int .i64 0, .int .i64 k, .int .i64 1] 116) = W2 at hO2 hS2 hB2 hR2 hcs2 ⊢
        go_wp2_with fail
        refine (cO.out _ R hR2.out).mono ?_
        rintro e w3 ⟨rfl, hR3, hch⟩
        have hK3 : KeptBut W2 w3 (fun i => i = R) := KeptBut.of_grown hch (fun _ e => (Option.some.inj e).symm)
        have hO3 := Lib.hid (hO2.out.but hK3 (fun i hi e => by
          obtain ⟨c1, g1⟩ := owns_has hO2.out hi
          exact has_ne g1 hR2.out int_run2 e))
        have hS3 := Lib.hid (hS2.out.but hK3 (fun e => has_ne hS2.out hR2.out stmt_run2 e))
        have hB3 := Lib.hid (hB2.out.trans (hK3.below (fun i hi e => by omega) (by have := hR2.out.lt; omega)))
        obtain ⟨g, off, d, rfl, hg, hdd, c0⟩ := (((hI.out.below (by rw [hBb.out]; exact hB3.out)).more hB3.out.size).at_ hy81)
        have hde : hOf ds y = d := by
          unfold hOf
          rw [Int.toNat_natCast, List.getD_eq_getElem?_getD, hdd]; rfl
        rw [hde] at hV hvb hm1 hm2
        have hwm : IntKind.i64.wrap (f * d) = f * d := IntWalk.i64_in _ (by omega)
        have hRc := hR3.cell
        have hBw3 : B ≤ w3.heap.size := by have := hB3.out.size; have := hBb.out; omega
        clear hch hK3 hO2 hS2 hB2 hR2 hcs2 hm1 hm2 hvb hfb hnb hdd hde hR3
        go_wp2_with fail
        generalize hzz : f * d = z at hV hwm ⊢
        have hO4 := Lib.hid (hO3.out.alloc (.cells #[.int .i64 z] 3))
        have hS4 := Lib.hid (hS3.out.alloc (.cells #[.int .i64 z] 3))
        have hnw := Lib.hid (new_one w3 (.int .i64 z) 3)
        have hB4 := Lib.hid (hB3.out.alloc hBw3 (.cells #[.int .i64 z] 3))
        go_region_law (first | (refine step_append_lies _ rfl (.tmp 44) (.tmp 53) 29 rfl B 3 i0 _ 1 8 Try.underlying29 hi0 hz0 hz1' hz2' rfl (by decide) (.slice Ao k co) k (ints (rowP (valAt (hOf ds) [s] 0) k)) (by simp [Act.eval]) (by have := hO4.out; unfold IOwn at this; rw [hlk] at this; exact this) ⟨w3.heap.size, 0, none⟩ 1 1 [.int .i64 z] (by simp [Act.eval]) rfl (by exact hnw.out) (by simp [Value.oneCell']) (by omega) (by unfold maxLen; omega) (by omega) (by simp; omega) (w3.heap.size + 1) (by simp) ?_; intro gr cr2 w6 hown6 hgrow6 hat6 hlt6))
        all_goals
          have hF := Lib.hid (IOwn.append_ (w := (w3.alloc (.cells #[.int .i64 z] 3)).drew) (news := [z]) (by exact hO4.out) (by rw [hlk]; exact hown6) (by exact hgrow6) hB4.out.drew (by simp; omega))
          have hK6 : KeptBut w3 w6 (fun i => (Value.slice Ao k co).ownBlock = some i) := grown_but_d (by exact hgrow6)
          have hS6 := Lib.hid (Has.but hS3.out hK6 (fun e => by obtain ⟨c1, g1⟩ := owns_has hO3.out e; exact has_ne hS3.out g1 stmt_int rfl))
          clear hown6 hgrow6 hat6 hK6
          go_wp2_with fail
          go_roundg (81 - (k + 1))
          case measure => omega
          case rel => exact ⟨k + 1, by omega, rfl, by go_num, by rw [hSn.out, hV.out]; exact hF.out.1, hS6.out, hF.out.2⟩
      · rw [hd] at cD
        have hdo := Lib.hid hd
        go_wp2_with (first | (go_at_call 96; refine (cD.out _).mono ?_; rintro e w2 ⟨rfl, hb2⟩))
        have hO2 := Lib.hid (hO'.out.below hb2)
        have hS2 := Lib.hid (hS'.out.kept hb2)
        have hbz := hb'.out.size
        have hB2 := Lib.hid (hb'.out.trans (hb2.mono (by have := hBb.out; omega)))
        clear hb2 hcs1 hd
        go_loopg [7, 8] 3 (fun gn a v wr => ∃ x : Nat, x ≤ 3 ∧ gn = 3 - x ∧ v = .int .i64 x ∧ a = .int .i64 (psum s (hOf ds) k x) ∧ IOwn wr B (.slice Ao k co) (rowP (valAt (hOf ds) [s] 0) k) ∧ Has wr B 49 #[.int .i64 s.k, .int .i64 s.a, .int .i64 s.b, .int .i64 s.c, .int .i64 s.u, .int .i64 s.v, .int .i64 s.x] ∧ Below B w wr)
        case atStart => exact ⟨0, by omega, rfl, rfl, rfl, hO2.out, hS2.out, hB2.out⟩
        case round =>
          clear hO2 hS2 hB2 hO' hS' hb'
          obtain ⟨x, hx, hgn, rfl, rfl, hO, hSr, hbr⟩ := hrel
          obtain ⟨gk2, rfl⟩ : ∃ x, x = gk := ⟨_, rfl⟩
          obtain ⟨w3, rfl⟩ : ∃ x, x = wr := ⟨_, rfl⟩
          have hgk2 : gk2 = 3 - x := hgn
          have hO' := Lib.hid hO
          have hS' := Lib.hid hSr
          have hb' := Lib.hid hbr
          have hbw : w.heap.size ≤ w3.heap.size := hbr.size
          clear hgn hO hSr hbr
          by_cases hx3 : x < 3
          · have hx0 : (0 : Int) ≤ (x : Int) ∧ (x : Int) ≤ 2 := by omega
            have hx1 : (0 : Int) ≤ (x : Int) := by omega
            have hx2 : (x : Int) < 3 := by omega
            have cWt := Lib.hid (fun wx => l2Weight_any s k x wx hOk.out hdo.out hks hx0)
            have cWi := Lib.hid (fun wx => l1With_v k s.a x wx hks hsa hx0)
            have hP := Lib.hid (show psum s (hOf ds) k (x + 1) = psum s (hOf ds) k x + s.fac (s.next k x) * hOf ds (s.next k x) from rfl)
            have hpb := psum_bd (x := x) hOk.out hks hXb.out (by omega)
            have hfb := fac_bd hOk.out (s.next k x)
            have hnb := next_bd hOk.out hks (x := (x : Int)) hx0
            have hvb := hXb.out _ hnb
            rw [← next_with hdo.out] at cWi
            have hm1 := Int.mul_nonneg hfb.1 hvb.1
            have hm2 := Int.mul_le_mul_of_nonneg_right hfb.2 hvb.1
            generalize s.next k x = y0 at cWt cWi hP hfb hnb hvb hm1 hm2
            obtain ⟨y, rfl⟩ : ∃ y : Nat, y0 = (y : Int) := ⟨y0.toNat, by omega⟩
            have hy0 : (0 : Int) ≤ (y : Int) := by omega
            have hy1 : (y : Int) < 81 := by omega
            have hy81 : y < 81 := by omega
            obtain ⟨g, off, d, rfl, hg, hdd, c0⟩ := (((hI.out.below (by rw [hBb.out]; exact hb'.out)).more hbw).at_ hy81)
            have hde : hOf ds y = d := by
              unfold hOf
              rw [Int.toNat_natCast, List.getD_eq_getElem?_getD, hdd]; rfl
            rw [hde] at hP hvb hm1 hm2
            generalize s.fac (y : Int) = f at cWt hP hfb hm1 hm2
            have hwm : IntKind.i64.wrap (f * d) = f * d := IntWalk.i64_in _ (by omega)
            have hws : IntKind.i64.wrap (psum s (hOf ds) k x + f * d) = psum s (hOf ds) k x + f * d := IntWalk.i64_in _ (by omega)
            generalize psum s (hOf ds) k x = ps at hP hpb hws ⊢
            have hcs3 := hS'.out.cell
            clear hm1 hm2 hpb hvb hfb hnb hdd hde
            go_wp2_with fail
            go_region_law (first
              | (go_simp; go_at_call 97; refine (cWt.out _).mono ?_; rintro e w4 ⟨rfl, hb4⟩; have hcs4 := (Has.kept (w := World.drew _) (by exact hS'.out) hb4).cell; have c04 := (hb4.cell (p := ⟨g, off + y, none⟩) (by exact hg)).trans c0)
              | (go_simp; go_at_call 98; refine (cWi.out _).mono ?_; rintro e w5 ⟨rfl, hw5⟩; obtain rfl := hw5.symm))
            all_goals
              have hb4' : Below w3.heap.size w3 w4 := ((Below.refl _ _).drew).trans hb4
              have hOn := Lib.hid (hO'.out.below hb4')
              have hSn2 := Lib.hid (hS'.out.kept hb4')
              have hBw : B ≤ w3.heap.size := by have := hBb.out; omega
              have hbn := Lib.hid (hb'.out.trans (hb4'.mono hBw))
              clear hb4 hb4' hcs4 c04
              simp only [List.getElem_toArray, List.getElem_cons_succ, List.getElem_cons_zero]
              go_simp
              go_wp2_with fail
              go_roundg (3 - (x + 1))
              case measure => omega
              case rel => exact ⟨x + 1, by omega, rfl, by go_num, by rw [hP.out], hOn.out, hSn2.out, hbn.out⟩
          · obtain rfl : x = 3 := by omega
            have hV := Lib.hid (one_draw (h := hOf ds) (st := (k : Int)) hdo.out)
            have hpb := psum_bd (x := 3) hOk.out hks hXb.out (by omega)
            generalize psum s (hOf ds) k 3 = z at hV ⊢
            have hO3 := Lib.hid (hO'.out.alloc (.cells #[.int .i64 z] 3))
            have hS3 := Lib.hid (hS'.out.alloc (.cells #[.int .i64 z] 3))
            have hnw := Lib.hid (new_one w3 (.int .i64 z) 3)
            have hBw : B ≤ w3.heap.size := by have := hBb.out; omega
            have hB3 := Lib.hid (hb'.out.alloc hBw (.cells #[.int .i64 z] 3))
            go_wp2_with (refine wpList_append_lies _ rfl (.tmp 36) (.tmp 38) 29 rfl B 3 i0 _ 1 8 Try.underlying29 hi0 hz0 hz1' hz2' rfl (by decide) (.slice Ao k co) k (ints (rowP (valAt (hOf ds) [s] 0) k)) rfl (by have := hO3.out; unfold IOwn at this; rwa [hlk] at this) ⟨w3.heap.size, 0, none⟩ 1 1 [.int .i64 z] rfl rfl (by exact hnw.out) (by simp [Value.oneCell']) (by omega) (by unfold maxLen; omega) (by omega) (by simp; omega) (w3.heap.size + 1) (by simp) ?_; intro gr cr2 w6 hown6 hgrow6 hat6 hlt6)
            have hF := Lib.hid (IOwn.append_ (news := [z]) hO3.out (by rw [hlk]; exact hown6) hgrow6 hB3.out (by simp; omega))
            have hK6 : KeptBut (w3.alloc (.cells #[.int .i64 z] 3)) w6 (fun i => (Value.slice Ao k co).ownBlock = some i) := KeptBut.of_grown hgrow6 (fun _ e => e)
            have hS6 := Lib.hid (Has.but hS3.out hK6 (fun e => by obtain ⟨c1, g1⟩ := owns_has hO3.out e; exact has_ne hS3.out g1 stmt_int rfl))
            clear hown6 hgrow6 hat6 hK6
            go_wp2_with fail
            go_roundg (81 - (k + 1))
            case measure => omega
            case rel => exact ⟨k + 1, by omega, rfl, by go_num, by rw [hSn.out, hV.out]; exact hF.out.1, hS6.out, hF.out.2⟩
    · obtain rfl : k = 81 := by omega
      clear hlk
      go_wp2_with fail
      go_ret
      refine ⟨_, rfl, ?_, ?_⟩
      · rw [hBb.out, ← rowP_all]; exact hO'.out
      · rw [hBb.out]; exact hb'.out
end Go.Proofs.Ytcphclkaddhfmaa
