/- Parts of the proof: K3. -/
import Derived.Deep.MidRow
import Derived.Deep.WholeRow
import Derived.Test.YtaipdkfbkcknkaaZAM
namespace Go.Proofs.Ytaipdkfbkcknkaa
set_option maxRecDepth 100000
set_option linter.unusedVariables false
open Go.RowKit
def nats (l : List Nat) : List Int := l.map fun (n : Nat) => (n : Int)
/-- The cells of widths. -/
def ArrN (cs : Array Value) (ls : List Nat) : Prop := cs.size = 16 ∧ ∀ q : Nat, q < 16 → cs[q]? = some (.int .i64 ((ls.getD q 0 : Nat) : Int))
theorem info_wid : (Try.prog.info? 88).map (fun i => (i.zero, i.size)) = some (some (.agg (List.toArray (List.replicate 16 (.int .i64 0)))), 16) := by kernel_rfl
theorem ArrN.one {cs : Array Value} {ls : List Nat} (h : ArrN cs ls) : cs.all (·.oneCell') = true := by
  refine Array.all_eq_true_iff_forall_mem.2 fun u hu => ?_
  obtain ⟨i, hi, rfl⟩ := Array.mem_iff_getElem.1 hu
  have h2 := h.2 i (by rw [← h.1]; exact hi)
  rw [Array.getElem?_eq_getElem hi] at h2
  rw [Option.some.inj h2]; rfl
theorem ArrN.put {cs : Array Value} {ls : List Nat} (h : ArrN cs ls) (hl : ls.length = 16) {q : Nat} (hq : q < 16) (x : Nat) : ArrN (cs.setIfInBounds q (.int .i64 (x : Int))) (ls.set q x) := by
  refine ⟨by simpa using h.1, fun j hj => ?_⟩
  by_cases hjq : q = j
  · subst hjq
    rw [Array.getElem?_setIfInBounds, if_pos rfl, if_pos (by rw [h.1]; exact hq), List.getD_eq_getElem?_getD, List.getElem?_set_self (by omega)]
    rfl
  · rw [Array.getElem?_setIfInBounds, if_neg hjq, h.2 j hj, List.getD_eq_getElem?_getD, List.getD_eq_getElem?_getD, List.getElem?_set_ne hjq]
theorem lst_len (g : Gr) : ∀ k, (g.lst k).length = 16
  | 0 => by simp [Gr.lst, zN]
  | k + 1 => by unfold Gr.lst; rw [List.length_set, lst_len g k]
theorem ArrN.zero : ArrN (List.toArray (List.replicate 16 (.int .i64 0))) (zN 16) := by
  refine ⟨by simp, fun q hq => ?_⟩
  have : (zN 16).getD q 0 = 0 := by
    unfold zN
    rw [List.getD_eq_getElem?_getD, List.getElem?_replicate]
    split <;> rfl
  rw [this, List.getElem?_toArray, List.getElem?_replicate, if_pos hq]
  rfl
/-- Cells written in the midst of a block. -/
theorem has_setCells_ {g : Nat} {t : TypeId} : ∀ (vs : List Value) (o : Nat) (w : World) (cs : Array Value), Has w g t cs → o + vs.length ≤ cs.size →
    ∃ cs', Has (w.setCells g o vs) g t cs' ∧ cs'.size = cs.size ∧ (∀ j v, vs[j]? = some v → cs'[o + j]? = some v) ∧ ∀ i, (i < o ∨ o + vs.length ≤ i) → cs'[i]? = cs[i]?
  | [], o, w, cs, h, hl => ⟨cs, h, rfl, fun j v hv => by simp at hv, fun i _ => rfl⟩
  | u :: vs, o, w, cs, h, hl => by
    rw [List.length_cons] at hl
    obtain ⟨cs', h1, h2, h3, h4⟩ := has_setCells_ vs (o + 1) (w.setCell ⟨g, o, none⟩ u) (cs.setIfInBounds o u) (h.put o u) (by simp; omega)
    refine ⟨cs', h1, by rw [h2]; simp, fun j v hv => ?_, fun i hi => ?_⟩
    · cases j with
      | zero =>
        have e : u = v := by simpa using hv
        subst e
        rw [Nat.add_zero, h4 o (by omega), Array.getElem?_setIfInBounds, if_pos rfl, if_pos (by omega)]
      | succ j =>
        have := h3 j v (by simpa using hv)
        rwa [show o + (j + 1) = o + 1 + j by omega]
    · rw [List.length_cons] at hi
      rw [h4 i (by omega), Array.getElem?_setIfInBounds, if_neg (by omega)]
theorem below_setCells_ {B b : Nat} {w0 : World} (hb : B ≤ b) : ∀ (vs : List Value) (o : Nat) (w : World), Below B w0 w → Below B w0 (w.setCells b o vs)
  | [], o, w, h => h
  | u :: vs, o, w, h => below_setCells_ hb vs (o + 1) _ (h.setCell (p := ⟨b, o, none⟩) hb u)
theorem has_there_ {w : World} {g : Nat} {t : TypeId} {cs : Array Value} (h : Has w g t cs) {o n : Nat} (hn : o + n ≤ cs.size) : w.there g o n := fun j hj => by
  refine ⟨?_, h.frozen _⟩
  rw [h.cell, Array.getElem?_eq_getElem (by omega)]; rfl
theorem has_range_ {w : World} {g : Nat} {t : TypeId} {cs : Array Value} (h : Has w g t cs) {o : Nat} {vs : List Value} (hv : ∀ j v, vs[j]? = some v → cs[o + j]? = some v) : w.rangeAt g o vs := fun j v hj => (h.cell _).trans (hv j v hj)
theorem results_cell_ {fn : Func} {p : Tmp} {ty : TypeId} (h : fn.results = #[.cell p ty]) (tmps : Array Value) (P : Program) (w : World) :
    (results fn tmps).run P w = ((asAddr (tmps.getD p undef)).run P w).andThen fun a w₁ => (loadVar ty a).run P w₁ := by
  simp only [results, h]
  simp [Sem.run_bind, Result.andThen]
theorem tb_nat (a b : Nat) : tb (a : Int) b = a.testBit b := by unfold tb; rw [Int.toNat_natCast]
theorem bit_nat {v : Nat} (hv : v ≤ 3) : bitN (v : Int) = ((2 ^ v : Nat) : Int) := by
  obtain rfl | rfl | rfl | rfl : v = 0 ∨ v = 1 ∨ v = 2 ∨ v = 3 := by omega
  all_goals decide
theorem or_nat {a v : Nat} (ha : a < 16) (hv : v ≤ 3) : bits .or .i64 (a : Int) (bitN (v : Int)) = ((a ||| 2 ^ v : Nat) : Int) ∧ a ||| 2 ^ v < 16 := by
  have h2 : 2 ^ v < 2 ^ 4 := Nat.pow_lt_pow_right (by decide) (by omega)
  refine ⟨?_, Nat.or_lt_two_pow (n := 4) (by omega) h2⟩
  rw [bits_or (by omega) (bitN_le _), bit_nat hv]
  unfold bor
  rw [Int.toNat_natCast, Int.toNat_natCast]
theorem nxt_lt (g : Gr) (ls : List Nat) (gone : Nat) : ∀ k, k ≤ 4 → (g.nxt ls gone k).1 ≤ 3
  | 0, _ => by simp [Gr.nxt]
  | k + 1, h => by
    unfold Gr.nxt
    have ih := nxt_lt g ls gone k (by omega)
    split
    · exact ih
    · split
      · show k ≤ 3; omega
      · exact ih
def Tw (w : World) (p : Nat × Nat) (e : Ending) (w' : World) : Prop := e = .returned (.tuple #[.int .i64 (p.1 : Int), .int .i64 (p.2 : Int)]) ∧ Below w.heap.size w w'
set_option maxHeartbeats 1000000 in
theorem nextBy_any (A : Option Addr) (n c : Nat) (ss : List Int) (gn : Nat) (cs : Array Value) (ls : List Nat) (w : World) (h : Ils w w.heap.size A n ss) (hn : n ≤ maxLen) (hs : Sts ss) (hg : gn < 16) (hc : ArrN cs ls) :
    Calls Try.prog 122 #[.slice A n c, .int .i64 (gn : Int), .agg cs] w (Tw w ((grS ss).nxt ls gn 4)) := by
  have hB0 : Below w.heap.size w (w.alloc (.cells cs 88)) := (Below.refl _ _).alloc (Nat.le_refl _) _
  have hI := Lib.hid ((h.below hB0).more hB0.size)
  have hB := Lib.hid hB0
  have hX := Lib.hid (Has.new w 88 cs)
  have hcs := Lib.hid hc.2
  have cW := Lib.hid (fun (v : Nat) (hv : v ≤ 3) (wx : World) (hx : Ils wx wx.heap.size A n ss) => (widthBehind_any A n c ss (gn : Int) v wx hx hn hs (by omega) hv).mono fun _ _ q => (show _ ∧ _ = wx from ⟨q.1, q.2.symm⟩))
  have cB := Lib.hid (fun (v : Nat) (wx : World) => (bitOf_any (v : Int) wx).mono fun _ _ q => (show _ ∧ _ = wx from ⟨q.1, q.2.symm⟩))
  clear h hB0 hc hn hs
  generalize hge : grS ss = gr at *
  go_enter Try.func122, Try.ntmps122
  go_wp2_with fail
  generalize w.alloc (.cells cs 88) = W0 at hI hB hX ⊢
  generalize hGe : w.heap.size = G at hX ⊢
  go_loopg [8, 9, 10] 4 (fun gq x y v wr => ∃ (k m : Nat), k ≤ 4 ∧ gq = 4 - k ∧ v = .int .i64 k ∧ x = .int .i64 (((gr.nxt ls gn k).1 : Nat) : Int) ∧ y = .int .i64 (((gr.nxt ls gn k).2 : Nat) : Int) ∧ wr = W0.drewN m)
  case atStart => exact ⟨0, 0, Nat.zero_le _, rfl, rfl, rfl, rfl, rfl⟩
  case round =>
    obtain ⟨k, m, hk, hgn, rfl, rfl, rfl, rfl⟩ := hrel
    have hgk : gk = 4 - k := hgn
    clear hgn
    by_cases hlt : k < 4
    · have hk0 : (0 : Int) ≤ (k : Int) := by omega
      have hk4 : (k : Int) < 4 := by omega
      have hba : (bits .and .i64 (gn : Int) (bitN (k : Int)) != 0) = gn.testBit k := by
        have := bits_and (L := (gn : Int)) (by omega) (show k ≤ 3 by omega)
        rw [tb_nat] at this
        simp only [bne, this, Bool.not_not]
      have cBk := Lib.hid (cB.out k)
      have hnx := Lib.hid (show gr.nxt ls gn (k + 1) = if gn.testBit k then gr.nxt ls gn k else if max (max (gr.wP gn k) (ls.getD (gn ||| 2 ^ k) 0)) (ls.getD 0 0) < (gr.nxt ls gn k).2 then (k, max (max (gr.wP gn k) (ls.getD (gn ||| 2 ^ k) 0)) (ls.getD 0 0)) else gr.nxt ls gn k from rfl)
      cases ht : gn.testBit k
      · rw [ht] at hba
        obtain ⟨hor, hlt16⟩ := or_nat (a := gn) (v := k) (by omega) (by omega)
        have hc1 := (hX.out.drewN m).cell (gn ||| 2 ^ k)
        rw [hcs.out _ hlt16] at hc1
        have hc0 := (hX.out.drewN m).cell 0
        rw [hcs.out 0 (by decide)] at hc0
        have hi0 : (0 : Int) ≤ ((gn ||| 2 ^ k : Nat) : Int) := by omega
        have hi1 : ((gn ||| 2 ^ k : Nat) : Int) < 16 := by omega
        have hIm := hI.out.below (below_drewN (Below.refl W0.heap.size W0) m)
        have hBm := Lib.hid (below_drewN hB.out m)
        have hWm := Lib.hid (fun q => World.drewN_drewN W0 m q)
        have hXm := Lib.hid (hX.out.drewN m)
        obtain ⟨Wq, hWq⟩ : ∃ Wq, W0.drewN m = Wq := ⟨_, rfl⟩
        have cWk := Lib.hid (fun nq => cW.out k (by omega) (Wq.drewN nq) (by rw [← hWq]; exact hIm.below (below_drewN (Below.refl _ _) _)))
        have hwb : wbS ss (gn : Int) k = ((gr.wP gn k : Nat) : Int) := by unfold wbS; rw [hge, Int.toNat_natCast]
        rw [hwb] at cWk
        clear hwb
        rw [ht, if_neg (by decide)] at hnx
        rw [hWq] at hBm hWm hXm hc1 hc0 ⊢
        clear hWq hIm
        generalize gr.wP gn k = a at cWk hnx
        generalize ls.getD (gn ||| 2 ^ k) 0 = b at hc1 hnx
        generalize ls.getD 0 0 = d at hc0 hnx
        generalize gn ||| 2 ^ k = ix at hor hlt16 hc1 hi0 hi1
        have hyes := Lib.hid (show max (max a b) d < (gr.nxt ls gn k).2 → gr.nxt ls gn (k + 1) = (k, max (max a b) d) from fun hq => by rw [hnx.out, if_pos hq])
        have hno := Lib.hid (show ¬ max (max a b) d < (gr.nxt ls gn k).2 → gr.nxt ls gn (k + 1) = gr.nxt ls gn k from fun hq => by rw [hnx.out, if_neg hq])
        clear ht
        go_wp2_with fail
        refine (cBk.out _).mono ?_
        rintro e w' ⟨rfl, rfl⟩
        go_wp2_with fail
        go_quiet (first | (go_at_call 75; exact Calls.quiet_of_same (cWk.out _)) | (go_at_call 64; exact Calls.quiet_of_same (cBk.out _)))
        go_wp2_with fail
        all_goals (go_roundg (4 - (k + 1)))
        all_goals first
          | (show 4 - (k + 1) < 4 - k; omega)
          | exact ⟨k + 1, m + nq, by omega, rfl, by go_num, by rw [hyes.out (by omega)], by rw [hyes.out (by omega)]; congr 1; show _ = ((max (max a b) d : Nat) : Int); omega, by rw [hWm.out]⟩
          | exact ⟨k + 1, m + nq, by omega, rfl, by go_num, by rw [hno.out (by omega)], by rw [hno.out (by omega)], by rw [hWm.out]⟩
      · rw [ht] at hba
        rw [ht, if_pos rfl] at hnx
        clear ht
        go_wp2_with fail
        refine (cBk.out _).mono ?_
        rintro e w' ⟨rfl, rfl⟩
        go_wp2_with fail
        go_roundg (4 - (k + 1))
        case measure => omega
        case rel => exact ⟨k + 1, m, by omega, rfl, by go_num, by rw [hnx.out], by rw [hnx.out], rfl⟩
    · obtain rfl : k = 4 := by omega
      have hE := Lib.hid (below_drewN hB.out m)
      go_wp2_with fail
      go_ret2
      exact ⟨rfl, hE.out⟩
def Ard (w : World) (ls : List Nat) (e : Ending) (w' : World) : Prop := ∃ cs, e = .returned (.agg cs) ∧ ArrN cs ls ∧ Below w.heap.size w w'
set_option maxHeartbeats 1000000 in
theorem leastWidths_any (A : Option Addr) (n c : Nat) (ss : List Int) (w : World) (h : Ils w w.heap.size A n ss) (hn : n ≤ maxLen) (hs : Sts ss) :
    Calls Try.prog 78 #[.slice A n c] w (Ard w ((grS ss).lst 15)) := by
  have hI := Lib.hid h
  obtain ⟨hzero, hsize⟩ := zero_of_info (P := Try.prog) info_wid
  have hA0 := ArrN.zero
  have cN := Lib.hid (fun (gn : Nat) (hg : gn < 16) (cs : Array Value) (ls : List Nat) (hc : ArrN cs ls) wx hx => nextBy_any A n c ss gn cs ls wx hx hn hs hg hc)
  generalize List.toArray (List.replicate 16 (Value.int .i64 0)) = zc at hzero hA0
  have hB0 : Below w.heap.size w ((w.alloc (.cells zc 88)).alloc (.cells zc 88)) := ((Below.refl _ _).alloc (Nat.le_refl _) _).alloc (by simp) _
  have hH0 : Has ((w.alloc (.cells zc 88)).alloc (.cells zc 88)) w.heap.size 88 zc := (Has.new w 88 zc).alloc _
  have hH1 : Has ((w.alloc (.cells zc 88)).alloc (.cells zc 88)) (w.heap.size + 1) 88 zc := by
    have := Has.new (w.alloc (.cells zc 88)) 88 zc
    simpa using this
  have hsz := Lib.hid hsize
  have hB0' := Lib.hid hB0
  have hH0' := Lib.hid hH0
  have hH1' := Lib.hid hH1
  have hA' := Lib.hid hA0
  clear h hn hs hsize hB0 hH0 hH1 hA0
  generalize grS ss = gr at *
  go_enter Try.func78, Try.ntmps78
  go_wp2_with fail
  clear hzero
  generalize hGG : w.heap.size = G at hB0' hH0' hH1' ⊢
  have hI0 := Lib.hid (show Ils w G A n ss from by rw [← hGG]; exact hI.out)
  have hGg := Lib.hid hGG
  clear hGG hI
  generalize (w.alloc (.cells zc 88)).alloc (.cells zc 88) = W at hB0' hH0' hH1' ⊢
  go_loopg [4] 15 (fun gq v wr => ∃ (k : Nat) (l : Int) (cs : Array Value), k ≤ 15 ∧ gq = 15 - k ∧ l = 14 - (k : Int) ∧ v = .int .i64 l ∧ Has wr G 88 zc ∧ Has wr (G + 1) 88 cs ∧ ArrN cs (gr.lst k) ∧ Below G w wr)
  case atStart => exact ⟨0, 14, zc, by omega, rfl, rfl, rfl, hH0'.out, hH1'.out, hA'.out, hB0'.out⟩
  case round =>
    obtain ⟨k, l, cs, hk, hgn, hl, rfl, hH0, hH1, hAk, hB⟩ := hrel
    have hgk : gk = 15 - k := hgn
    clear hgn
    have hAh := Lib.hid hAk
    have hcz := hAk.1
    have hzG : G ≤ wr.heap.size := by rw [← hGg.out]; exact hB.size
    have hsz1 : (Try.prog.info? 88).map (·.size) = some cs.toList.length := by rw [hsz.out]; simp [hcz]
    have hR1 := Lib.hid (has_range_ (o := 0) (vs := cs.toList) hH1 (fun j v hv => by rw [Nat.zero_add]; simpa using hv))
    have hL1 := Lib.hid hsz1
    by_cases hlt : k < 15
    · obtain ⟨u, rfl⟩ : ∃ u : Nat, l = (u : Int) := ⟨14 - k, by omega⟩
      have hu : u = 14 - k := by omega
      have hu0 : (0 : Int) ≤ (u : Int) := by omega
      have hu1 : (u : Int) < 16 := by omega
      have cNk := Lib.hid (cN.out u (by omega) cs (gr.lst k) hAk wr ((hI0.out.below hB).more hzG))
      have hnx := Lib.hid (show gr.lst (k + 1) = (gr.lst k).set u (gr.nxt (gr.lst k) u 4).2 from by rw [hu]; rfl)
      have huh := Lib.hid hu
      have hczh := Lib.hid hcz
      have hl' : (u : Int) - 1 = 14 - ((k + 1 : Nat) : Int) := by omega
      have hlh := Lib.hid hl'
      clear hu hcz hl'
      have hBh := Lib.hid hB
      have hH0h := Lib.hid hH0
      have hH1h := Lib.hid hH1
      generalize hp : gr.nxt (gr.lst k) u 4 = pp at cNk hnx
      have hP := Lib.hid (hAk.put (lst_len gr k) (show u < 16 by omega) pp.2)
      rw [← hnx.out] at hP
      clear hp hsz1 hB hH0 hH1 hAk hl hnx
      go_wp2_with (first
        | (refine wpList_load_mid rfl 88 (.tmp 3) rfl (G + 1) 0 (by simp [Act.eval]) cs.toList _ hR1.out Try.underlying88 rfl hL1.out ?_))
      refine cNk.out.mono ?_
      rintro e w2 ⟨rfl, hb2⟩
      have hB2 := Lib.hid (hBh.out.trans (hb2.mono hzG))
      have hX0 := Lib.hid (hH0h.out.kept hb2)
      have hX1 := hH1h.out.kept hb2
      obtain ⟨u9, hu9⟩ := hX1.size_cell (x := u) (by rw [hczh.out]; omega)
      have hfz := hX1.frozen u
      have hN := Lib.hid (hX1.put u (.int .i64 (pp.2 : Int)))
      have hN0 := Lib.hid (hX0.out.far (p := ⟨G + 1, u, none⟩) (by show G ≠ G + 1; omega) (.int .i64 (pp.2 : Int)))
      have hBn := Lib.hid (hB2.out.setCell (p := ⟨G + 1, u, none⟩) (by show G ≤ G + 1; omega) (.int .i64 (pp.2 : Int)))
      clear hb2 hX1
      go_wp2_with fail
      go_roundg (15 - (k + 1))
      case measure => omega
      case rel => exact ⟨k + 1, (u : Int) - 1, _, by omega, rfl, hlh.out, rfl, hN0.out, hN.out, hP.out, hBn.out⟩
    · obtain rfl : k = 15 := by omega
      obtain rfl : l = -1 := by omega
      have hS1 := Lib.hid (show (Try.prog.info? 88).map (·.size) = some cs.size by rw [hsz.out, hcz])
      obtain ⟨cs', hC1, hC2, hC3, _⟩ := has_setCells_ cs.toList 0 wr zc hH0 (by simp [hA'.out.1, hcz])
      have hC4 : cs' = cs := by
        apply Array.ext_getElem?
        intro q
        by_cases hq : q < cs.size
        · have := hC3 q cs[q] (by simp [hq])
          rw [Nat.zero_add] at this
          rw [this, Array.getElem?_eq_getElem hq]
        · rw [Array.getElem?_eq_none (by rw [hC2, hA'.out.1]; omega), Array.getElem?_eq_none (by omega)]
      subst hC4
      have hT1 := Lib.hid (has_there_ (o := 0) (n := cs'.size) hH0 (by rw [hA'.out.1, hcz]; exact Nat.le_refl _))
      have hBn := Lib.hid (below_setCells_ (Nat.le_refl G) cs'.toList 0 _ hB)
      have hlv := Lib.hid (run_loadVar_row (P := Try.prog) _ G 88 88 cs' (0, 0) _ hC1 Try.underlying88 rfl hS1.out)
      clear hsz1 hH0 hH1 hAk hB hcz hC1 hC2 hC3
      go_wp2_with (first
        | (refine wpList_load_mid rfl 88 (.tmp 3) rfl (G + 1) 0 (by simp [Act.eval]) cs'.toList _ hR1.out Try.underlying88 rfl hL1.out ?_)
        | (refine wpList_store_mid rfl 88 (.tmp 2) (.tmp 21) rfl G 0 cs' (by rfl) (by rfl) hT1.out hS1.out hAh.out.one ?_))
      refine bodyPost_ret (v := .agg cs') (by rw [results_cell_ rfl]; simp [asAddr, Result.andThen, Act.put, hlv.out]) rfl ?_
      obtain rfl := hGg.out
      exact ⟨cs', rfl, hAh.out, hBn.out⟩
/-- A row that is filled in from the front. -/
def fillI (f : List Int) (n k : Nat) : List Int := f.take k ++ zs (n - k)
theorem fillI_len {f : List Int} {n k : Nat} (hf : f.length = n) (hk : k ≤ n) : (fillI f n k).length = n := by unfold fillI; rw [List.length_append, List.length_take, zs_len]; omega
theorem fillI_set {f : List Int} {n k : Nat} {x : Int} (hf : f.length = n) (h : f[k]? = some x) : (fillI f n k).set k x = fillI f n (k + 1) := by
  obtain ⟨hl, he⟩ := List.getElem?_eq_some_iff.1 h
  unfold fillI
  have e1 : (f.take k).length = k := by rw [List.length_take]; omega
  rw [List.set_append_right _ _ (by omega), e1, Nat.sub_self, List.take_succ_eq_append_getElem hl, he]
  have e : n - k = n - (k + 1) + 1 := by omega
  rw [e]
  show f.take k ++ (x :: zs (n - (k + 1))) = _
  rw [List.append_assoc]
  rfl
theorem fillI_zero (f : List Int) (n : Nat) : fillI f n 0 = zs n := by unfold fillI; rw [List.take_zero, Nat.sub_zero, List.nil_append]
theorem fillI_all {f : List Int} {n : Nat} (hf : f.length = n) : fillI f n n = f := by unfold fillI; rw [Nat.sub_self, List.take_of_length_le (by omega)]; exact List.append_nil _
theorem ord_len (g : Gr) (ls : List Nat) : ∀ k, (g.ord ls k).length = k
  | 0 => rfl
  | k + 1 => by unfold Gr.ord; rw [List.length_append, ord_len g ls k]; rfl
theorem mask_append (p : List Nat) (v : Nat) : maskN (p ++ [v]) = maskN p ||| 2 ^ v := by unfold maskN; rw [List.foldl_append]; rfl
theorem ord_mask (g : Gr) (ls : List Nat) : ∀ k, maskN (g.ord ls k) < 16
  | 0 => by show 0 < 16; decide
  | k + 1 => by
    unfold Gr.ord
    rw [mask_append]
    exact (or_nat (ord_mask g ls k) (nxt_lt g ls _ 4 (Nat.le_refl _))).2
theorem ord_take (g : Gr) (ls : List Nat) (k : Nat) : ∀ d, (g.ord ls (k + d)).take k = g.ord ls k
  | 0 => by rw [Nat.add_zero, List.take_of_length_le (by rw [ord_len]; exact Nat.le_refl _)]
  | d + 1 => by
    rw [← Nat.add_assoc]
    show (g.ord ls (k + d) ++ _).take k = _
    rw [List.take_append_of_le_length (by rw [ord_len]; omega), ord_take g ls k d]
theorem ord_at (g : Gr) (ls : List Nat) {k m : Nat} (h : k < m) : (g.ord ls m)[k]? = some (g.nxt ls (maskN (g.ord ls k)) 4).1 := by
  have h1 := ord_take g ls (k + 1) (m - (k + 1))
  rw [show k + 1 + (m - (k + 1)) = m by omega] at h1
  have h2 : (g.ord ls (k + 1))[k]? = some (g.nxt ls (maskN (g.ord ls k)) 4).1 := by
    show (g.ord ls k ++ [(g.nxt ls (maskN (g.ord ls k)) 4).1])[k]? = _
    rw [List.getElem?_append_right (by rw [ord_len]; exact Nat.le_refl _), ord_len, Nat.sub_self]
    rfl
  rw [← h1, List.getElem?_take, if_pos (by omega)] at h2
  exact h2
theorem nats_get {l : List Nat} {k x : Nat} (h : l[k]? = some x) : (nats l)[k]? = some (x : Int) := by unfold nats; rw [List.getElem?_map, h]; rfl
end Go.Proofs.Ytaipdkfbkcknkaa
