/- Parts of the proof: KG. -/
import Derived.Test.YtaipdkfbkcknkaaZAT
namespace Go.Proofs.Ytaipdkfbkcknkaa
set_option maxRecDepth 100000
set_option linter.unusedVariables false
open Go.RowKit
/-- The first k places are filled in. -/
def FillS (cs : Array Value) (Fs : List Fac) (us : List Value) (n k : Nat) : Prop := cs.size = n * 6 ∧ ∀ i F x y, i < k → Fs[i]? = some F → us[i * 2]? = some x → us[i * 2 + 1]? = some y → ∀ j, j < 6 → cs[i * 6 + j]? = (strA x y (strL (setOf F.vs)))[j]?
theorem FillS.all {cs : Array Value} {Fs : List Fac} {us : List Value} {n : Nat} (h : FillS cs Fs us n n) (hn : Fs.length = n) (hu : us.length = Fs.length * 2) : cs.toList = sflat Fs us := by
  apply List.ext_getElem?
  intro z
  rw [Array.getElem?_toList]
  by_cases hz : z < n * 6
  · have hk : z / 6 < Fs.length := by omega
    have h1 := h.2 (z / 6) Fs[z / 6] us[z / 6 * 2] us[z / 6 * 2 + 1] (by omega) (List.getElem?_eq_getElem hk) (List.getElem?_eq_getElem (by omega)) (List.getElem?_eq_getElem (by omega)) (z % 6) (by omega)
    have h2 := sflat_get hu (k := z / 6) (List.getElem?_eq_getElem hk) (List.getElem?_eq_getElem (show z / 6 * 2 < us.length by omega)) (List.getElem?_eq_getElem (show z / 6 * 2 + 1 < us.length by omega)) (z % 6) (by omega)
    rw [show z / 6 * 6 + z % 6 = z by omega] at h1 h2
    rw [h1, h2]
  · rw [Array.getElem?_eq_none (by rw [h.1]; omega), List.getElem?_eq_none (by rw [sflat_len Fs us hu]; omega)]
theorem FillS.step {cs cs' : Array Value} {Fs : List Fac} {us : List Value} {n k : Nat} {F : Fac} {x y : Value} (h : FillS cs Fs us n k) (hu : us.length = k * 2) (hF : Fs[k]? = some F) (h1 : cs'.size = cs.size)
    (h2 : ∀ j v, (strA x y (strL (setOf F.vs))).toList[j]? = some v → cs'[k * 6 + j]? = some v) (h3 : ∀ i, (i < k * 6 ∨ k * 6 + 6 ≤ i) → cs'[i]? = cs[i]?) : FillS cs' Fs (us ++ [x, y]) n (k + 1) := by
  refine ⟨by rw [h1]; exact h.1, fun i G a b hi hG ha hb j hj => ?_⟩
  by_cases hik : i < k
  · rw [List.getElem?_append_left (by omega)] at ha hb
    rw [h3 _ (by omega)]
    exact h.2 i G a b hik hG ha hb j hj
  · obtain rfl : i = k := by omega
    rw [List.getElem?_append_right (by omega), hu, Nat.sub_self] at ha
    rw [List.getElem?_append_right (by omega), hu, show i * 2 + 1 - i * 2 = 1 by omega] at hb
    obtain rfl : x = a := by simpa using ha
    obtain rfl : y = b := by simpa using hb
    obtain rfl : F = G := Option.some.inj (hF.symm.trans hG)
    have hjs : j < (strA x y (strL (setOf F.vs))).size := by rw [strA_size]; exact hj
    rw [h2 j (strA x y (strL (setOf F.vs)))[j] (by rw [Array.getElem?_toList]; exact Array.getElem?_eq_getElem hjs), Array.getElem?_eq_getElem hjs]
def Ssd (w : World) (Fs : List Fac) (e : Ending) (w' : World) : Prop := ∃ v us, e = .returned v ∧ RowsS w' w.heap.size w.heap.size v Fs us ∧ Apart us ∧ Below w.heap.size w w'
set_option maxHeartbeats 4000000 in
theorem stridedOf_any (A : Option Addr) (n c : Nat) (Fs : List Fac) (w : World) (h : FLst w w.heap.size A n Fs) (hn : n ≤ 8) (hF : ∀ F ∈ Fs, facOk 9 F = true) :
    Calls Try.prog 71 #[.slice A n c] w (Ssd w Fs) := by
  have hI := Lib.hid h
  have hl := Lib.hid h.1
  have hFh := Lib.hid hF
  obtain ⟨i0, hi0, hz0, hz1', hz2'⟩ := info_parts info_str
  have hsz := Lib.hid (show (Try.prog.info? 79).map (·.size) = some 6 by kernel_rfl)
  have hmk : ∀ wx : World, (Instr.makeSlice 74 (.int .i64 (n : Int)) (.int .i64 (n : Int))).run Try.prog wx = .ok (.slice (some ⟨wx.heap.size, 0, none⟩) n n) (wx.alloc (.cells (madeCells #[.slice none 0 0, .slice none 0 0, .int .i64 0, .int .i64 0, .int .i64 0, .int .i64 0] (n * 6)) 79)) := by
    intro wx
    have hr := run_make (P := Try.prog) wx 74 79 i0 _ Try.underlying74 hi0 hz0 .i64 .i64 (n : Int) (n : Int) (by omega) (by omega) (by rw [hz2']; omega) (by omega)
    rw [hz1'] at hr
    rw [Int.toNat_natCast] at hr
    exact hr
  have hcz := size_madeCells #[Value.slice none 0 0, .slice none 0 0, .int .i64 0, .int .i64 0, .int .i64 0, .int .i64 0] (n * 6)
  clear h hF hi0 hz0 hz1' hz2'
  generalize madeCells #[Value.slice none 0 0, .slice none 0 0, .int .i64 0, .int .i64 0, .int .i64 0, .int .i64 0] (n * 6) = mc at hmk hcz
  have hF0 := Lib.hid (show FillS mc Fs [] n 0 from ⟨hcz, fun i _ _ _ hi => by omega⟩)
  have hB0 := Lib.hid (show Below w.heap.size w (w.alloc (.cells mc 79)) from (Below.refl _ _).alloc (Nat.le_refl _) _)
  have hO0 := Lib.hid (Has.new w 79 mc)
  have cT := Lib.hid (fun (L : Int) (hL : 0 ≤ L ∧ L ≤ 15) wx => stridedOver_any L wx hL)
  clear hcz
  go_enter Try.func71, Try.ntmps71
  go_wp2_with fail
  clear hmk
  generalize hGG : w.heap.size = G at hB0 hO0 ⊢
  have hI0 := Lib.hid (show FLst w G A n Fs from by rw [← hGG]; exact hI.out)
  have hGg := Lib.hid hGG
  clear hGG hI
  generalize w.alloc (.cells mc 79) = W at hB0 hO0 ⊢
  go_loopg [12] n (fun gq x wr => ∃ (k : Nat) (cs : Array Value) (us : List Value), k ≤ n ∧ gq = n - k ∧ x = .int .i64 k ∧ Has wr G 79 cs ∧ FillS cs Fs us n k ∧ InnF wr G (Fs.take k) us ∧ Apart us ∧ Below G w wr)
  case atStart => exact ⟨0, mc, [], by omega, rfl, rfl, hO0.out, hF0.out, InnF.nil _ _, Apart.nil, hB0.out⟩
  case round =>
    obtain ⟨k, cs, us, hk, hgn, rfl, hH, hfl, hin, hap, hB⟩ := hrel
    have hgk : gk = n - k := hgn
    have hzG : G ≤ wr.heap.size := by rw [← hGg.out]; exact hB.size
    have kH := Lib.hid hH
    have kF := Lib.hid hfl
    have kN := Lib.hid hin
    have kA := Lib.hid hap
    have kB := Lib.hid hB
    clear hgn hH hfl hin hap
    by_cases hlt : k < n
    · obtain ⟨gl, off, F, B1, m1, e1, B2, m2, e2, rfl, hgl, hFk, cl1, cl2, hFW⟩ := (hI0.out.below hB).at_ hlt
      have hk0 : (0 : Int) ≤ (k : Int) := by omega
      have hk1 : (k : Int) < (n : Int) := by omega
      have hFo := hFh.out F (List.mem_of_getElem? hFk)
      obtain ⟨q1, q2, q3, q4, q5⟩ := fac_parts hFo
      obtain ⟨Lq, hLv, hLs, _⟩ := fac_set hFo
      have hL : 0 ≤ setOf F.vs ∧ setOf F.vs ≤ 15 := by rw [hLs]; omega
      have hov := Lib.hid (show over (setOf F.vs) = F.vs from by rw [hLs, hLv])
      have hm1 := hFW.1.1
      have hm2 := hFW.2.1
      have hqq : 3 ^ (over (setOf F.vs)).length = m2 := by rw [hov.out, ← q3, hm2]
      have hqp : 0 < m2 := by rw [← hqq]; exact Nat.pow_pos (by decide)
      have hal : Below wr.heap.size wr (wr.alloc (.cells #[.slice B1 m1 e1, .slice B2 m2 e2] 36)) := (Below.refl _ _).alloc (Nat.le_refl _) _
      have hFa := Lib.hid (show FacW _ _ B1 m1 B2 m2 F from ((hFW.more hzG).keep_ hal).more hal.size)
      have hfn := Lib.hid (Has.new wr 36 #[.slice B1 m1 e1, .slice B2 m2 e2])
      have cV := Lib.hid (fun wx hx => varsOf_any B1 B2 m1 e1 m2 e2 F wx hx (by unfold maxLen; omega) q5)
      have cTk := Lib.hid (cT.out (setOf F.vs) hL)
      have hBa := Lib.hid hal
      have hFkh := Lib.hid hFk
      have hm12 := Lib.hid (show F.vs.length = m1 ∧ F.ns.length = m2 from ⟨hm1, hm2⟩)
      have hqqh := Lib.hid hqq
      have hsetF := Lib.hid hLs
      have hset := Lib.hid (show setOf (blankF (setOf F.vs)).vs = setOf F.vs from by rw [show (blankF (setOf F.vs)).vs = over (setOf F.vs) from rfl, hov.out])
      have hbv := Lib.hid (show (blankF (setOf F.vs)).vs = F.vs from hov.out)
      have hbn := Lib.hid (show (blankF (setOf F.vs)).ns.length = m2 from by rw [show (blankF (setOf F.vs)).ns = zs (3 ^ (over (setOf F.vs)).length) from rfl, zs_len, hqq])
      clear hal hFW hFk hFo q1 q2 q3 q4 q5 hLv hLs hL hm1 hm2 hqq hB
      go_wp2_with fail
      clear cl1 cl2
      generalize wr.alloc (.cells #[.slice B1 m1 e1, .slice B2 m2 e2] 36) = W1 at hFa hfn hBa ⊢
      refine (cV.out _ hFa.out).mono ?_
      rintro e w2 ⟨rfl, hb2⟩
      have hB2 := Lib.hid (hBa.out.trans (hb2.mono hBa.out.size))
      have hF2 := Lib.hid (hFa.out.below hb2)
      have hf2 := Lib.hid (hfn.out.kept hb2)
      clear hb2
      go_wp2_with fail
      refine (cTk.out _).mono ?_
      rintro e w3 ⟨v1, v2, rfl, hV, hb3⟩
      obtain ⟨V1, d1, rfl, _, _⟩ := hV.1.form
      obtain ⟨V2, d2, rfl, _, _⟩ := hV.2.1.form
      have hz2 := hB2.out.size
      rw [hbn.out] at hV ⊢
      rw [hbv.out] at hV ⊢
      have hV3 := Lib.hid hV
      have hB3 := Lib.hid (hB2.out.trans (hb3.mono hz2))
      have hF3 := Lib.hid (hF2.out.below hb3)
      have hf3 := Lib.hid (hf2.out.kept hb3)
      have hv2n : w3.ownsRow w2.heap.size 3 1 (.slice V2 m2 d2) m2 (ints (blankF (setOf F.vs)).ns) := by
        have h9 := hV.2.1
        unfold IOwn at h9
        rwa [hbn.out] at h9
      obtain ⟨g2, cur2, rfl, hg2, hcur2, _⟩ := owns_open hv2n hqp
      have hal4 : Below w3.heap.size w3 (w3.alloc (.cells (strA (.slice V1 F.vs.length d1) (.slice (some ⟨g2, 0, none⟩) m2 d2) (strL (setOf F.vs))) 79)) := (Below.refl _ _).alloc (Nat.le_refl _) _
      have hv2o := Lib.hid (show (w3.alloc (.cells (strA (.slice V1 F.vs.length d1) (.slice (some ⟨g2, 0, none⟩) m2 d2) (strL (setOf F.vs))) 79)).ownsRow w2.heap.size 3 1 (.slice (some ⟨g2, 0, none⟩) m2 d2) m2 (ints (blankF (setOf F.vs)).ns) from owns_but hv2n (KeptBut.of_below hal4 (fun _ => False)) (fun _ _ e => e))
      have hS4 := Lib.hid (Has.new w3 79 (strA (.slice V1 F.vs.length d1) (.slice (some ⟨g2, 0, none⟩) m2 d2) (strL (setOf F.vs))))
      have hF4 := Lib.hid (hF3.out.below hal4)
      have hf4 := Lib.hid (hf3.out.kept hal4)
      have hB4 := Lib.hid (hB3.out.trans (hal4.mono hB3.out.size))
      have hV14 := Lib.hid (hV.1.below hal4)
      have hne := Lib.hid (fun b (e : (Value.slice V1 F.vs.length d1).ownBlock = some b) => show b ≠ g2 from fun e2 => hV.2.2 b e (by rw [e2]; rfl))
      have hfc := hf3.out.cell
      clear hb3 hV hv2n hal4
      unfold strA at hS4 hv2o hF4 hf4 hB4 hV14
      unfold strA
      have hScell := hS4.out.cell
      have hfcell := hf4.out.cell
      go_wp2_with (first
        | (refine wpList_copy_int rfl (.tmp 22) (.tmp 24) rfl w2.heap.size _ g2 m2 d2 (blankF (setOf F.vs)).ns F.ns (by exact hv2o.out) (by rfl) B2 e2 (by rfl) (by exact hF4.out.2) hqp ?_))
      intro w5 hown5 hk5
      have hgw : wr.heap.size ≤ g2 := Nat.le_trans hz2 hg2
      have hg3 : g2 < w3.heap.size := by have := hcur2.lt; exact this
      have hB5 : Below wr.heap.size wr w5 := hB4.out.trans (hk5.below (fun i hi e => by omega) hB4.out.size)
      have hS5 := hS4.out.but hk5 (fun e => by omega)
      have hV15 : IOwn w5 w2.heap.size (.slice V1 F.vs.length d1) (blankF (setOf F.vs)).vs := hV14.out.but hk5 (fun b hb e => hne.out b hb e)
      rw [hbv.out] at hV15
      have hV25 : IOwn w5 w2.heap.size (.slice (some ⟨g2, 0, none⟩) m2 d2) F.ns := by
        unfold IOwn
        rw [hm12.out.2]
        exact hown5
      have hH5 := kH.out.kept hB5
      have hN5 := kN.out.below hB5
      have hcells := hS5.cell
      obtain ⟨ca, hca⟩ : ∃ ca, strA (.slice V1 F.vs.length d1) (.slice (some ⟨g2, 0, none⟩) m2 d2) (strL (setOf F.vs)) = ca := ⟨_, rfl⟩
      have hcz : ca.size = 6 := by rw [← hca]; rfl
      have hone : ca.all (·.oneCell') = true := by rw [← hca]; unfold strA; simp [Value.oneCell']
      have hul := kN.out.1
      have htk : (Fs.take k).length = k := by rw [List.length_take, hl.out]; omega
      rw [htk] at hul
      obtain ⟨cs', hC1, hC2, hC3, hC4⟩ := has_setCells_ ca.toList (k * 6) w5 cs hH5 (by rw [kF.out.1]; simp [hcz]; omega)
      have hfill : FillS cs' Fs (us ++ [.slice V1 F.vs.length d1, .slice (some ⟨g2, 0, none⟩) m2 d2]) n (k + 1) := kF.out.step hul hFkh.out hC2 (by rw [hca]; exact hC3) (fun i hi => hC4 i (by simp [hcz]; omega))
      have hGne : ∀ b cur, Has w5 b 3 cur → b ≠ G := fun b cur hb => has_ne hb hH5 int_ne_str
      have hkG := kept_setCells (b := G) ca.toList (k * 6) w5 (KeptBut.refl w5 _)
      have hinn : InnF (w5.setCells G (k * 6) ca.toList) G (Fs.take (k + 1)) (us ++ [.slice V1 F.vs.length d1, .slice (some ⟨g2, 0, none⟩) m2 d2]) := by
        obtain ⟨hl9, he9⟩ := List.getElem?_eq_some_iff.1 hFkh.out
        rw [List.take_succ_eq_append_getElem hl9, he9]
        exact (hN5.snoc (owns_le hV15 (Nat.le_trans hzG hz2)) (owns_le hV25 (Nat.le_trans hzG hz2))).but hkG (fun b cur hb _ _ e => hGne b cur hb e)
      have hapn : Apart (us ++ [.slice V1 F.vs.length d1, .slice (some ⟨g2, 0, none⟩) m2 d2]) := by
        rw [show us ++ [Value.slice V1 F.vs.length d1, .slice (some ⟨g2, 0, none⟩) m2 d2] = (us ++ [.slice V1 F.vs.length d1]) ++ [.slice (some ⟨g2, 0, none⟩) m2 d2] by simp]
        refine (kA.out.snoc fun y hy b hb e => ?_).snoc fun y hy b hb e => ?_
        · have h1 := kN.out.blk y hy b hb
          have h2 := (World.ownsRow.lt hV15 b e).1
          omega
        · rcases List.mem_append.1 hy with hy | hy
          · have h1 := kN.out.blk y hy b hb
            have h2 := (World.ownsRow.lt hV25 b e).1
            omega
          · have hy' : y = .slice V1 F.vs.length d1 := by simpa using hy
            subst hy'
            have : g2 = b := by simpa [Value.ownBlock] using e
            exact hne.out b hb this.symm
      have hBn := Lib.hid (below_setCells_ (Nat.le_refl G) ca.toList (k * 6) _ (kB.out.trans (hB5.mono hzG)))
      have gH := Lib.hid hC1
      have gF := Lib.hid hfill
      have gN := Lib.hid hinn
      have gA := Lib.hid hapn
      have hT1 := Lib.hid (has_there_ (o := k * 6) (n := ca.size) hH5 (by rw [kF.out.1, hcz]; omega))
      have hS1 := Lib.hid (show (Try.prog.info? 79).map (·.size) = some ca.size by rw [hsz.out, hcz])
      have hoh := Lib.hid hone
      have hch := Lib.hid (show #[Value.slice V1 F.vs.length d1, .slice (some ⟨g2, 0, none⟩) m2 d2, .int .i64 (strL (setOf F.vs) 0), .int .i64 (strL (setOf F.vs) 1), .int .i64 (strL (setOf F.vs) 2), .int .i64 (strL (setOf F.vs) 3)] = ca from hca)
      clear hown5 hk5 hB5 hS5 hV15 hV25 hH5 hN5 hca hcz hone hul htk hC1 hC2 hC3 hC4 hfill hGne hkG hinn hapn hScell hfcell
      go_wp2_with (first
        | (refine wpList_store_mid rfl 79 (.tmp 29) (.tmp 28) rfl G (k * 6) ca (by rfl) (by rw [← hch.out]; rfl) hT1.out hS1.out hoh.out ?_))
      go_roundg (n - (k + 1))
      case measure => omega
      case rel => exact ⟨k + 1, cs', _, by omega, rfl, by go_num, gH.out, gF.out, gN.out, gA.out, hBn.out⟩
    · obtain rfl : k = n := by omega
      have hRs := Lib.hid (show RowsS wr G G (.slice (some ⟨G, 0, none⟩) k k) Fs us from by
        have hN := kN.out
        rw [List.take_of_length_le (by rw [hl.out]; exact Nat.le_refl _)] at hN
        have hcz := kF.out.1
        refine ⟨⟨by rw [sflat_len Fs us hN.1], .inr ⟨G, k, cs, by rw [hl.out], Nat.le_refl _, kH.out, by rw [hl.out]; exact Nat.le_refl _, by unfold maxLen; omega, hcz, ?_⟩⟩, hN⟩
        rw [kF.out.all hl.out hN.1, List.take_of_length_le (by rw [sflat_len Fs us hN.1]; exact Nat.le_refl _)])
      clear hB
      go_wp2_with fail
      go_ret
      obtain rfl := hGg.out
      exact ⟨_, us, rfl, hRs.out, kA.out, kB.out⟩
end Go.Proofs.Ytaipdkfbkcknkaa
