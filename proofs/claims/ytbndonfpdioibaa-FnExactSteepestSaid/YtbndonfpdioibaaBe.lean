/- What goes over unrolled statements backward in memory; what is worth in a state ahead of a statement: the program's worthIn. -/
import Derived.Test.YtbndonfpdioibaaBc
import Derived.Deep.QuietTactic
import Derived.BigQuiet
import Derived.Deep.RegionLaw
namespace Go.Proofs.Ytbndonfpdioibaa
set_option maxRecDepth 100000
set_option linter.unusedVariables false
open Go.RowKit

theorem tbk_a : (3 : TypeId) ≠ 146 := by decide
theorem tbk_b : (3 : TypeId) ≠ 183 := by decide
theorem tbk_c : (3 : TypeId) ≠ 24 := by decide

/-- What goes backward: its statements, whither runs lead, its row, and what is kept for skips behind a place. -/
def Bkp (w : World) (base g gl gr gk m : Nat) (A : Option Addr) (c : Nat) (os : List St) (led : Nat → Int → Bool) (G : Int → Int) (R : Nat → Int → Int) (i1 : Nat) (kb : Nat → Nat) : Prop :=
  Has w g 146 #[.slice A m c, .slice (some ⟨gl, 0, none⟩) (m + 1) (m + 1), .slice (some ⟨gr, 0, none⟩) 81 81, .slice (some ⟨gk, 0, none⟩) (m + 1) (m + 1)] ∧
  Lst w base A m os ∧ (∃ cs, Has w gl 183 cs ∧ LedA cs m led) ∧ (∃ cs, Has w gr 3 cs ∧ RowA cs G) ∧
  (∃ ks, Has w gk 24 ks ∧ ks.size = m + 1 ∧ ∀ j, i1 < j → j ≤ m → (∃ i, Leads os j i) → ks[j]? = some (.slice (some ⟨kb j, 0, none⟩) 81 81)) ∧
  (∀ j, i1 < j → j ≤ m → (∃ i, Leads os j i) → kb j ≠ gr ∧ ∃ cs, Has w (kb j) 3 cs ∧ RowA cs (R j)) ∧ base ≤ gr ∧ base ≤ w.heap.size
theorem Bkp.below {w w' : World} {base g gl gr gk m c i1 : Nat} {A : Option Addr} {os : List St} {led : Nat → Int → Bool} {G : Int → Int} {R : Nat → Int → Int} {kb : Nat → Nat} (h : Bkp w base g gl gr gk m A c os led G R i1 kb) (hb : Below w.heap.size w w') : Bkp w' base g gl gr gk m A c os led G R i1 kb := by
  obtain ⟨h1, h2, ⟨cl, h3, h4⟩, ⟨cr, h5, h6⟩, ⟨ks, h7, h8, h9⟩, h10, h11, h12⟩ := h
  refine ⟨h1.kept hb, h2.below (hb.mono h12), ⟨cl, h3.kept hb, h4⟩, ⟨cr, h5.kept hb, h6⟩, ⟨ks, h7.kept hb, h8, h9⟩, fun j h0 hj hs => ?_, h11, Nat.le_trans h12 hb.size⟩
  obtain ⟨hn, cs, hc, hr⟩ := h10 j h0 hj hs
  exact ⟨hn, cs, hc.kept hb, hr⟩

/-- What a part of a run is worth. -/
def Xw (G : Int → Int) (R : Nat → Int → Int) (i1 : Nat) (p : Nat) (st : Int) : Int := if i1 < p then R p st else G st

set_option maxHeartbeats 1000000 in
theorem worthIn_any (w : World) (base g gl gr gk m : Nat) (A : Option Addr) (c : Nat) (os : List St) (led : Nat → Int → Bool) (G : Int → Int) (R : Nat → Int → Int) (kb : Nat → Nat) (s : St) (k q : Nat) (h : Bkp w base g gl gr gk m A c os led G R (k + 1) kb) (hm : m ≤ 12) (hM : os.length = m) (hk : k < m) (hs : os[k]? = some s) (hok : s.ok = true) (hq : q < 81)
    (hG : ∀ d : Nat, d < s.many → 0 ≤ G (s.next q d) ∧ G (s.next q d) ≤ 100000000000000000) (hR : ∀ j st, 0 ≤ st ∧ st ≤ 80 → k < j → 0 ≤ R j st ∧ R j st ≤ 100000000000000000) :
    Calls Try.prog 185 #[.pointer (some ⟨g, 0, none⟩), .int .i64 k, .int .i64 q] w fun e w' => e = .returned (.int .i64 (if led k q = true then wsum (Xw G R (k + 1)) (prt m s ⟨k, q, 1⟩) else 0)) ∧ Below w.heap.size w w' := by
  have hB := Lib.hid h
  have hgc := h.1.cell
  obtain ⟨cl, hl, hla⟩ := h.2.2.1
  have hlc := (hl.cell (k * 81 + q)).trans (hla.2 k q (by omega) hq)
  have hk0 : (0 : Int) ≤ (k : Int) := by omega
  have hk1 : (k : Int) < (m : Int) := by omega
  have hk2 : (k : Int) < (m : Int) + 1 := by omega
  have hk3 : k < m + 1 := by omega
  have hq0 : (0 : Int) ≤ (q : Int) := by omega
  have hq1 : (q : Int) < 81 := by omega
  have hS := Lib.hid hs
  have hMo := Lib.hid hM
  have hGb := Lib.hid hG
  have hRb := Lib.hid hR
  clear h hl hla hs hM hG hR
  cases hl : led k q
  · rw [hl] at hlc
    go_enter Try.func185, Try.ntmps185
    go_wp2_with fail
    go_ret
    exact ⟨rfl, Below.refl _ _⟩
  · rw [hl] at hlc
    obtain ⟨n, hne⟩ : ∃ n, s.many = n := ⟨_, rfl⟩
    have hn1 := many_pos s
    have hn3 := many_le s
    rw [hne] at hn1 hn3
    have hln : (prt m s ⟨k, q, 1⟩).length = n := by rw [prt_length, hne]
    have hNe := Lib.hid hne
    have hqs : (0 : Int) ≤ (q : Int) ∧ (q : Int) ≤ 80 := by omega
    have cP0 := Lib.hid (fun wx (hb : Below w.heap.size w wx) => show Calls Try.prog 159 #[.slice A m c, .agg #[.int .i64 k, .int .i64 q, .int .i64 1]] wx (fun e w' => ∃ b cs, e = .returned (.slice (some ⟨b, 0, none⟩) n n) ∧ wx.heap.size ≤ b ∧ Has w' b 101 cs ∧ PrtA cs (prt m s ⟨k, q, 1⟩) n ∧ Below wx.heap.size wx w') from
      (partsOf_any A m c os s ⟨k, q, 1⟩ wx (((hB.out.below hb).2.1).more (hB.out.below hb).2.2.2.2.2.2.2) hm hMo.out hk hS.out hok hqs ⟨by show (0 : Int) ≤ 1; decide, by show (1 : Int) ≤ 1000000000000000000; decide⟩).mono fun e w' h9 => by
        unfold Prtd at h9
        rwa [hln] at h9)
    have hLn := Lib.hid hln
    clear hne hln
    go_enter Try.func185, Try.ntmps185
    go_wp2_with fail
    clear hlc
    go_region_law (first
      | (go_simp; go_at_call 160; refine (runAt_any k q _).mono ?_; rintro e w3 ⟨rfl, hb3⟩; have hB3 := (Below.refl w.heap.size w).drew.trans hb3; have hg3 := (hB.out.below hB3).1.cell)
      | (go_simp; go_at_call 159; refine (cP0.out _ (by first | exact hB3 | exact hB3.drew)).mono ?_; rintro e w4 ⟨P, csP, rfl, hPge, hHP, hPr, hb4⟩))
    all_goals
      have hB4 := Lib.hid (hB3.trans (hb4.mono hB3.size))
      have hPlt : w.heap.size ≤ P := by have := hB3.size; omega
      have hH4 := Lib.hid hHP
      have hP4 := Lib.hid hPr
      clear hg3 hB3 hb3 hPge hHP hPr hb4 cP0 hgc
      simp only [List.getElem_toArray, List.getElem_cons_succ, List.getElem_cons_zero]
      go_simp
      go_wp2_with fail
      go_loopg [30, 7] n (fun gn v a wr => ∃ d : Nat, d ≤ n ∧ gn = n - d ∧ v = .int .i64 d ∧ a = .int .i64 (wsum (Xw G R (k + 1)) ((prt m s ⟨k, q, 1⟩).take d)) ∧ Has wr P 101 csP ∧ Below w.heap.size w wr)
      case atStart => exact ⟨0, by omega, rfl, rfl, rfl, hH4.out, hB4.out⟩
      case round =>
        clear hH4 hB4
        obtain ⟨d, hd, hgn, rfl, rfl, hPd, hBd⟩ := hrel
        have hgk : gk = n - d := hgn
        clear hgn
        by_cases hdn : d < n
        · have hp := prt_at (m := m) (s := s) (r := ⟨k, q, 1⟩) (show d < s.many by rw [hNe.out]; exact hdn)
          obtain ⟨c0, c1, c2⟩ := hP4.out.2 d _ hdn hp
          have hpm : (clp m (Rn.step s ⟨k, q, 1⟩ d)).pos ≤ m := Nat.min_le_right _ _
          have hpk : k < (clp m (Rn.step s ⟨k, q, 1⟩ d)).pos := by
            show k < min (k + 1 + s.jump q) m
            omega
          have hps : 0 ≤ (clp m (Rn.step s ⟨k, q, 1⟩ d)).st ∧ (clp m (Rn.step s ⟨k, q, 1⟩ d)).st ≤ 80 := next_bd hok hqs (by omega)
          have hpw : 0 ≤ (clp m (Rn.step s ⟨k, q, 1⟩ d)).wt ∧ (clp m (Rn.step s ⟨k, q, 1⟩ d)).wt ≤ 9 := by
            have := fac_bd hok (s.next q d)
            show 0 ≤ 1 * s.fac (s.next q d) ∧ 1 * s.fac (s.next q d) ≤ 9
            omega
          have hld := Lib.hid (show k + 1 < (clp m (Rn.step s ⟨k, q, 1⟩ d)).pos → Leads os (clp m (Rn.step s ⟨k, q, 1⟩ d)).pos k from fun hlt => by
            have hlt' : k + 1 < min (k + 1 + s.jump q) m := hlt
            refine ⟨s, hS.out, ?_, ?_⟩
            · apply Classical.byContradiction
              intro h6
              have : s.jump q = 0 := if_neg fun e => h6 e.1
              omega
            · show min (k + 1 + s.b.toNat) os.length = min (k + 1 + s.jump q) m
              have : s.jump q = s.b.toNat := by
                unfold St.jump at hlt' ⊢
                split
                · rfl
                · rename_i h9
                  rw [if_neg h9] at hlt'
                  omega
              rw [this, hMo.out])
          have hgz : 0 ≤ G (clp m (Rn.step s ⟨k, q, 1⟩ d)).st ∧ G (clp m (Rn.step s ⟨k, q, 1⟩ d)).st ≤ 100000000000000000 := hGb.out d (by rw [hNe.out]; exact hdn)
          have hsum := Lib.hid (wsum_bd (g := Xw G R (k + 1)) (X := 900000000000000000) (l := (prt m s ⟨k, q, 1⟩).take d) (fun r hr => by
            obtain ⟨i, hi, rfl⟩ := mem_prt (List.mem_of_mem_take hr)
            have hmy := many_le s
            have e0 := fac_bd hok (s.next q i)
            have e1 : 0 ≤ s.next q i ∧ s.next q i ≤ 80 := next_bd hok hqs (by omega)
            have e2 : 0 ≤ Xw G R (k + 1) (min (k + 1 + s.jump q) m) (s.next q i) ∧ Xw G R (k + 1) (min (k + 1 + s.jump q) m) (s.next q i) ≤ 100000000000000000 := by
              unfold Xw
              split
              · exact hRb.out _ _ e1 (by omega)
              · exact hGb.out i hi
            show 0 ≤ (1 * s.fac (s.next q i)) * Xw G R (k + 1) (min (k + 1 + s.jump q) m) (s.next q i) ∧ (1 * s.fac (s.next q i)) * Xw G R (k + 1) (min (k + 1 + s.jump q) m) (s.next q i) ≤ 900000000000000000
            rw [Int.one_mul]
            have e3 := Int.mul_nonneg e0.1 e2.1
            have e4 := Int.mul_le_mul_of_nonneg_right e0.2 e2.1
            omega))
          generalize clp m (Rn.step s ⟨k, q, 1⟩ d) = r at hp c0 c1 c2 hpm hpk hps hpw hld hgz
          obtain ⟨z, hz⟩ : ∃ z : Nat, r.st = (z : Int) := ⟨r.st.toNat, by omega⟩
          rw [hz] at c1 hgz
          have hz81 : z < 81 := by omega
          have hz0 : (0 : Int) ≤ (z : Int) := by omega
          have hz1 : (z : Int) < 81 := by omega
          have hzz := Lib.hid hz
          have hp' := Lib.hid hp
          have e0 := (hPd.cell _).trans c0
          have e1 := (hPd.cell _).trans c1
          have e2 := (hPd.cell _).trans c2
          have hd0 : (0 : Int) ≤ (d : Int) := by omega
          have hd1 : (d : Int) < (n : Int) := by omega
          have hr0 : (0 : Int) ≤ (r.pos : Int) := by omega
          have hr1 : (r.pos : Int) < (m : Int) + 1 := by omega
          have hr2 : r.pos < m + 1 := by omega
          have hwk : IntKind.i64.wrap ((k : Int) + 1) = (k : Int) + 1 := IntWalk.i64_in _ (by omega)
          clear c0 c1 c2 hp hz hps
          have hBr := hB.out.below hBd
          have hgw := hBr.1.cell
          have hBa := Lib.hid (hBr.below ((Below.refl wr.heap.size wr).alloc (Nat.le_refl _) (.cells #[.int .i64 r.pos, .int .i64 z, .int .i64 r.wt] 101)))
          have hPa := Lib.hid (hPd.alloc (.cells #[.int .i64 r.pos, .int .i64 z, .int .i64 r.wt] 101))
          have hBb := Lib.hid (hBd.alloc hBd.size (.cells #[.int .i64 r.pos, .int .i64 z, .int .i64 r.wt] 101))
          have hXa := Lib.hid (Has.new wr 101 #[.int .i64 r.pos, .int .i64 z, .int .i64 r.wt])
          have hgc := hBa.out.1.cell
          clear hBr hPd hBd
          by_cases hlt : k + 1 < r.pos
          · skip
            have hx : 0 ≤ R r.pos z ∧ R r.pos z ≤ 100000000000000000 := hRb.out _ _ ⟨hz0, by omega⟩ (by omega)
            have hXe := Lib.hid (show Xw G R (k + 1) r.pos z = R r.pos z from if_pos hlt)
            have hlt' : (k : Int) + 1 < (r.pos : Int) := by omega
            obtain ⟨ks, hks, hksz, hkv⟩ := hBa.out.2.2.2.2.1
            obtain ⟨hkn, csR, hcR, hrR⟩ := hBa.out.2.2.2.2.2.1 r.pos hlt hpm ⟨k, hld.out hlt⟩
            have f1 := (hks.cell r.pos).trans (hkv r.pos hlt hpm ⟨k, hld.out hlt⟩)
            have f2 := (hcR.cell z).trans (hrR.2 z hz81)
            clear hks hksz hkv hkn hcR hrR
            generalize R r.pos z = x at hx hXe f2
            have hNx := Lib.hid (show wsum (Xw G R (k + 1)) ((prt m s ⟨k, q, 1⟩).take (d + 1)) = wsum (Xw G R (k + 1)) ((prt m s ⟨k, q, 1⟩).take d) + r.wt * x from by rw [wsum_take hp'.out, hzz.out, hXe.out])
            have hs1 := hsum.out
            have hl1 : (((prt m s ⟨k, q, 1⟩).take d).length : Int) * 900000000000000000 ≤ 3 * 900000000000000000 := Int.mul_le_mul_of_nonneg_right (by rw [List.length_take, hLn.out]; omega) (by decide)
            have hm1 := Int.mul_nonneg hpw.1 hx.1
            have hm2 := Int.mul_le_mul_of_nonneg_right hpw.2 hx.1
            have hwm : IntKind.i64.wrap (r.wt * x) = r.wt * x := IntWalk.i64_in _ (by omega)
            have hws : IntKind.i64.wrap (wsum (Xw G R (k + 1)) ((prt m s ⟨k, q, 1⟩).take d) + r.wt * x) = wsum (Xw G R (k + 1)) ((prt m s ⟨k, q, 1⟩).take d) + r.wt * x := IntWalk.i64_in _ (by omega)
            clear hs1 hl1 hm1 hm2 hx hpw hgz
            generalize wsum (Xw G R (k + 1)) ((prt m s ⟨k, q, 1⟩).take d) = sk at hws hNx ⊢
            go_wp2_with fail
            clear e0 e1 e2 hgw
            generalize wr.heap.size = X at hXa ⊢
            generalize wr.alloc (.cells #[.int .i64 r.pos, .int .i64 z, .int .i64 r.wt] 101) = W at hBa hPa hXa hBb f2 f1 hgc ⊢
            have hxc := hXa.out.cell
            go_quiet (fail)
            go_wp2_with fail
            go_quiet (fail)
            go_wp2_with fail
            generalize hWq : World.drewN W _ = W3
            have hbq : Below W.heap.size W W3 := by rw [← hWq]; exact below_drewN (Below.refl _ _) _
            have hPn := Lib.hid (hPa.out.kept hbq)
            have hBn := Lib.hid (hBb.out.trans (hbq.mono hBb.out.size))
            clear hWq hbq
            go_roundg (n - (d + 1))
            case measure => omega
            case rel => exact ⟨d + 1, by omega, rfl, by go_num, by rw [hNx.out], hPn.out, hBn.out⟩
          · skip
            have hx : 0 ≤ G z ∧ G z ≤ 100000000000000000 := hgz
            have hXe := Lib.hid (show Xw G R (k + 1) r.pos z = G z from if_neg hlt)
            have hlt' : ¬ ((k : Int) + 1 < (r.pos : Int)) := by omega
            obtain ⟨csR, hcR, hrR⟩ := hBa.out.2.2.2.1
            have f2 := (hcR.cell z).trans (hrR.2 z hz81)
            clear hcR hrR
            generalize G z = x at hx hXe f2
            have hNx := Lib.hid (show wsum (Xw G R (k + 1)) ((prt m s ⟨k, q, 1⟩).take (d + 1)) = wsum (Xw G R (k + 1)) ((prt m s ⟨k, q, 1⟩).take d) + r.wt * x from by rw [wsum_take hp'.out, hzz.out, hXe.out])
            have hs1 := hsum.out
            have hl1 : (((prt m s ⟨k, q, 1⟩).take d).length : Int) * 900000000000000000 ≤ 3 * 900000000000000000 := Int.mul_le_mul_of_nonneg_right (by rw [List.length_take, hLn.out]; omega) (by decide)
            have hm1 := Int.mul_nonneg hpw.1 hx.1
            have hm2 := Int.mul_le_mul_of_nonneg_right hpw.2 hx.1
            have hwm : IntKind.i64.wrap (r.wt * x) = r.wt * x := IntWalk.i64_in _ (by omega)
            have hws : IntKind.i64.wrap (wsum (Xw G R (k + 1)) ((prt m s ⟨k, q, 1⟩).take d) + r.wt * x) = wsum (Xw G R (k + 1)) ((prt m s ⟨k, q, 1⟩).take d) + r.wt * x := IntWalk.i64_in _ (by omega)
            clear hs1 hl1 hm1 hm2 hx hpw hgz
            generalize wsum (Xw G R (k + 1)) ((prt m s ⟨k, q, 1⟩).take d) = sk at hws hNx ⊢
            go_wp2_with fail
            clear e0 e1 e2 hgw
            generalize wr.heap.size = X at hXa ⊢
            generalize wr.alloc (.cells #[.int .i64 r.pos, .int .i64 z, .int .i64 r.wt] 101) = W at hBa hPa hXa hBb f2 hgc ⊢
            have hxc := hXa.out.cell
            go_quiet (fail)
            go_wp2_with fail
            generalize hWq : World.drewN W _ = W3
            have hbq : Below W.heap.size W W3 := by rw [← hWq]; exact below_drewN (Below.refl _ _) _
            have hPn := Lib.hid (hPa.out.kept hbq)
            have hBn := Lib.hid (hBb.out.trans (hbq.mono hBb.out.size))
            clear hWq hbq
            go_roundg (n - (d + 1))
            case measure => omega
            case rel => exact ⟨d + 1, by omega, rfl, by go_num, by rw [hNx.out], hPn.out, hBn.out⟩
        · obtain rfl : n = d := by omega
          have hF := Lib.hid (show wsum (Xw G R (k + 1)) ((prt m s ⟨k, q, 1⟩).take n) = wsum (Xw G R (k + 1)) (prt m s ⟨k, q, 1⟩) from by rw [List.take_of_length_le (by rw [hLn.out]; exact Nat.le_refl _)])
          have hB9 := Lib.hid hBd
          clear hPd hBd
          go_wp2_with fail
          go_ret
          exact ⟨by rw [hF.out]; rfl, hB9.out⟩
end Go.Proofs.Ytbndonfpdioibaa
