/- Parts of the proof: K5. -/
import Derived.Test.YtaipdkfbkcknkaaZAN
import Derived.Test.YtaipdkfbkcknkaaZAG
namespace Go.Proofs.Ytaipdkfbkcknkaa
set_option maxRecDepth 100000
set_option linter.unusedVariables false
open Go.RowKit
theorem ints_put {rs : Array Value} {ds : List Int} (h : rs.toList = ints ds) (k : Nat) (x : Int) : (rs.setIfInBounds k (.int .i64 x)).toList = ints (ds.set k x) := by
  rw [Array.toList_setIfInBounds, h]
  unfold ints
  rw [List.map_set]
theorem ints_size {rs : Array Value} {ds : List Int} (h : rs.toList = ints ds) : rs.size = ds.length := by rw [← Array.length_toList, h, ints_length]
set_option maxHeartbeats 1000000 in
theorem orderBy_any (A : Option Addr) (n c : Nat) (ss : List Int) (cs : Array Value) (ls : List Nat) (w : World) (h : Ils w w.heap.size A n ss) (hn : n ≤ maxLen) (hs : Sts ss) (hc : ArrN cs ls) :
    Calls Try.prog 77 #[.slice A n c, .agg cs] w (Wtsd w (nats ((grS ss).ord ls 4))) := by
  have cN := Lib.hid (fun (gn : Nat) (hg : gn < 16) wx hx => nextBy_any A n c ss gn cs ls wx hx hn hs hg hc)
  have hI := Lib.hid h
  have hsz := Lib.hid (show (Try.prog.info? 88).map (·.size) = some cs.toList.length by
    have h9 := congrArg (Option.map Prod.snd) info_wid
    rw [Option.map_map] at h9
    have h8 : cs.toList.length = 16 := by simp [hc.1]
    rw [h8]
    exact h9)
  clear h hn hs hc
  generalize grS ss = gr at *
  have hfl := Lib.hid (show (nats (gr.ord ls 4)).length = 4 by unfold nats; rw [List.length_map, ord_len])
  have hfa := Lib.hid (fun (k : Nat) (hk : k < 4) => nats_get (ord_at gr ls hk))
  generalize hf : nats (gr.ord ls 4) = f at *
  clear hf
  obtain ⟨i0, hi0, hz0, hz1', hz2'⟩ := info_parts info_int
  have hmk : ∀ wx : World, (Instr.makeSlice 22 (.int .i64 4) (.int .i64 4)).run Try.prog wx = .ok (.slice (some ⟨wx.heap.size, 0, none⟩) 4 4) (wx.alloc (.cells (madeCells #[.int .i64 0] 4) 3)) := by
    intro wx
    have hr := run_make (P := Try.prog) wx 22 3 i0 _ Try.underlying22 hi0 hz0 .i64 .i64 4 4 (by omega) (by omega) (by rw [hz2']; omega) (by omega)
    rw [hz1'] at hr
    exact hr
  clear hi0 hz0 hz1' hz2'
  have hms := made_zs 4
  generalize madeCells #[Value.int .i64 0] 4 = mc at hmk hms
  have hms0 := Lib.hid (show mc.toList = ints (fillI f 4 0) by rw [fillI_zero]; exact hms)
  clear hms
  have hB0 := Lib.hid (show Below w.heap.size w ((w.alloc (.cells cs 88)).alloc (.cells mc 3)) from ((Below.refl _ _).alloc (Nat.le_refl _) _).alloc (by simp) _)
  have hX0 := Lib.hid ((Has.new w 88 cs).alloc (.cells mc 3))
  have hO0 := Lib.hid (Has.newAt (w := w.alloc (.cells cs 88)) (n := w.heap.size + 1) (t := 3) (cs := mc) (by simp))
  go_enter Try.func77, Try.ntmps77
  go_wp2_with fail
  clear hmk
  generalize hGG : w.heap.size = G at hB0 hX0 hO0 ⊢
  have hI0 := Lib.hid (show Ils w G A n ss from by rw [← hGG]; exact hI.out)
  have hGg := Lib.hid hGG
  clear hGG hI
  generalize (w.alloc (.cells cs 88)).alloc (.cells mc 3) = W at hB0 hX0 hO0 ⊢
  go_loopg [6, 13] 4 (fun gq o v wr => ∃ (k : Nat) (rs : Array Value), k ≤ 4 ∧ gq = 4 - k ∧ v = .int .i64 k ∧ o = .int .i64 ((maskN (gr.ord ls k) : Nat) : Int) ∧ Has wr G 88 cs ∧ Has wr (G + 1) 3 rs ∧ rs.toList = ints (fillI f 4 k) ∧ Below G w wr)
  case atStart => exact ⟨0, _, by omega, rfl, rfl, rfl, hX0.out, hO0.out, hms0.out, hB0.out⟩
  case round =>
    obtain ⟨k, rs, hk, hgn, rfl, rfl, hH0, hH1, hrs, hB⟩ := hrel
    have hgk : gk = 4 - k := hgn
    clear hgn
    have hzG : G ≤ wr.heap.size := by rw [← hGg.out]; exact hB.size
    have hrz := ints_size hrs
    rw [fillI_len hfl.out hk] at hrz
    by_cases hlt : k < 4
    · have hk0 : (0 : Int) ≤ (k : Int) := by omega
      have hk4 : (k : Int) < 4 := by omega
      have hR1 := Lib.hid (has_range_ (o := 0) (vs := cs.toList) hH0 (fun j v hv => by rw [Nat.zero_add]; simpa using hv))
      have hmb := ord_mask gr ls k
      have cNk := Lib.hid (cN.out _ hmb wr ((hI0.out.below hB).more hzG))
      have hat := Lib.hid (hfa.out k hlt)
      have hpl := nxt_lt gr ls (maskN (gr.ord ls k)) 4 (Nat.le_refl _)
      have hnm := Lib.hid (show maskN (gr.ord ls (k + 1)) = maskN (gr.ord ls k) ||| 2 ^ (gr.nxt ls (maskN (gr.ord ls k)) 4).1 from mask_append _ _)
      obtain ⟨hor, _⟩ := or_nat hmb hpl
      have hBh := Lib.hid hB
      have hH0h := Lib.hid hH0
      have hH1h := Lib.hid hH1
      have hrzh := Lib.hid hrz
      generalize maskN (gr.ord ls k) = mm at *
      generalize gr.nxt ls mm 4 = pp at *
      have hP := Lib.hid (show (rs.setIfInBounds k (.int .i64 (pp.1 : Int))).toList = ints (fillI f 4 (k + 1)) from by rw [ints_put hrs, fillI_set hfl.out hat.out])
      have cB := Lib.hid (fun wx => bitOf_any (pp.1 : Int) wx)
      clear hB hH0 hH1 hrs hrz
      go_wp2_with (first
        | (refine wpList_load_mid rfl 88 (.tmp 3) rfl G 0 (by simp [Act.eval]) cs.toList _ hR1.out Try.underlying88 rfl hsz.out ?_))
      refine cNk.out.mono ?_
      rintro e w2 ⟨rfl, hb2⟩
      have hB2 := Lib.hid (hBh.out.trans (hb2.mono hzG))
      have hX0 := Lib.hid (hH0h.out.kept hb2)
      have hX1 := hH1h.out.kept hb2
      obtain ⟨u9, hu9⟩ := hX1.size_cell (x := k) (by rw [hrzh.out]; omega)
      have hfz := hX1.frozen k
      have hN := Lib.hid (hX1.put k (.int .i64 (pp.1 : Int)))
      have hN0 := Lib.hid (hX0.out.far (p := ⟨G + 1, k, none⟩) (by show G ≠ G + 1; omega) (.int .i64 (pp.1 : Int)))
      have hBn := Lib.hid (hB2.out.setCell (p := ⟨G + 1, k, none⟩) (by show G ≤ G + 1; omega) (.int .i64 (pp.1 : Int)))
      clear hb2 hX1
      go_wp2_with fail
      refine (cB.out _).mono ?_
      rintro e w' ⟨rfl, rfl⟩
      go_wp2_with fail
      go_roundg (4 - (k + 1))
      case measure => omega
      case rel => exact ⟨k + 1, _, by omega, rfl, by go_num, by rw [hnm.out], hN0.out, hN.out, hP.out, hBn.out⟩
    · obtain rfl : k = 4 := by omega
      rw [fillI_all hfl.out] at hrs
      have hF := Lib.hid (show IOwn wr G (.slice (some ⟨G + 1, 0, none⟩) 4 4) f from IOwn.of_has hH1 hrs hfl.out (by omega) (by decide))
      have hBh := Lib.hid hB
      clear hH0 hH1 hrs hrz hB
      go_wp2_with fail
      go_ret
      obtain rfl := hGg.out
      exact ⟨_, rfl, hF.out, hBh.out⟩
set_option maxHeartbeats 1000000 in
theorem setsOf_any (A : Option Addr) (n c : Nat) (Fs : List Fac) (w : World) (h : FLst w w.heap.size A n Fs) (hn : n ≤ 8) (hF : ∀ F ∈ Fs, facOk 9 F = true) :
    Calls Try.prog 74 #[.slice A n c] w (Wtsd w (setsF Fs)) := by
  have hI := Lib.hid h
  have hl := h.1
  have hfl := Lib.hid (show (setsF Fs).length = n by unfold setsF; rw [List.length_map, hl])
  have hfa := Lib.hid (fun (k : Nat) (F : Fac) (hk : Fs[k]? = some F) => show (setsF Fs)[k]? = some (setOf F.vs) from by unfold setsF; rw [List.getElem?_map, hk]; rfl)
  have hFh := Lib.hid hF
  generalize hf : setsF Fs = f at *
  clear hf h hF
  obtain ⟨i0, hi0, hz0, hz1', hz2'⟩ := info_parts info_int
  have hmk : ∀ wx : World, (Instr.makeSlice 22 (.int .i64 (n : Int)) (.int .i64 (n : Int))).run Try.prog wx = .ok (.slice (some ⟨wx.heap.size, 0, none⟩) n n) (wx.alloc (.cells (madeCells #[.int .i64 0] n) 3)) := by
    intro wx
    have hr := run_make (P := Try.prog) wx 22 3 i0 _ Try.underlying22 hi0 hz0 .i64 .i64 (n : Int) (n : Int) (by omega) (by omega) (by rw [hz2']; omega) (by omega)
    rw [hz1'] at hr
    rw [Int.toNat_natCast, Nat.mul_one] at hr
    exact hr
  clear hi0 hz0 hz1' hz2'
  have hms := made_zs n
  generalize madeCells #[Value.int .i64 0] n = mc at hmk hms
  have hB0 := Lib.hid (show Below w.heap.size w (w.alloc (.cells mc 3)) from (Below.refl _ _).alloc (Nat.le_refl _) _)
  have hO0 := Lib.hid (Has.new w 3 mc)
  have hms0 := Lib.hid (show mc.toList = ints (fillI f n 0) by rw [fillI_zero]; exact hms)
  clear hms
  go_enter Try.func74, Try.ntmps74
  go_wp2_with fail
  clear hmk
  generalize hGG : w.heap.size = G at hB0 hO0 ⊢
  have hI0 := Lib.hid (show FLst w G A n Fs from by rw [← hGG]; exact hI.out)
  have hGg := Lib.hid hGG
  clear hGG hI
  generalize w.alloc (.cells mc 3) = W at hB0 hO0 ⊢
  go_loopg [11] n (fun gq v wr => ∃ (k : Nat) (rs : Array Value), k ≤ n ∧ gq = n - k ∧ v = .int .i64 k ∧ Has wr G 3 rs ∧ rs.toList = ints (fillI f n k) ∧ Below G w wr)
  case atStart => exact ⟨0, _, by omega, rfl, rfl, hO0.out, hms0.out, hB0.out⟩
  case round =>
    obtain ⟨k, rs, hk, hgn, rfl, hH1, hrs, hB⟩ := hrel
    have hgk : gk = n - k := hgn
    clear hgn
    have hzG : G ≤ wr.heap.size := by rw [← hGg.out]; exact hB.size
    have hrz := ints_size hrs
    rw [fillI_len hfl.out hk] at hrz
    by_cases hlt : k < n
    · obtain ⟨gl, off, F, B1, m1, e1, B2, m2, e2, rfl, hgl, hFk, cl1, cl2, hFW⟩ := (hI0.out.below hB).at_ hlt
      have hk0 : (0 : Int) ≤ (k : Int) := by omega
      have hk1 : (k : Int) < (n : Int) := by omega
      obtain ⟨q1, q2, q3, q4, q5⟩ := fac_parts (hFh.out F (List.mem_of_getElem? hFk))
      have hm1 := hFW.1.1
      have hat := Lib.hid (hfa.out k F hFk)
      have hal : Below wr.heap.size wr (wr.alloc (.cells #[.slice B1 m1 e1, .slice B2 m2 e2] 36)) := (Below.refl _ _).alloc (Nat.le_refl _) _
      have hFa := Lib.hid (show FacW _ _ B1 m1 B2 m2 F from ((hFW.more hzG).keep_ hal).more hal.size)
      have cV := Lib.hid (fun wx hx => varsOf_any B1 B2 m1 e1 m2 e2 F wx hx (by unfold maxLen; omega) q5)
      have hBa := Lib.hid (hB.trans (hal.mono hzG))
      have hHa := Lib.hid (hH1.kept hal)
      have hza := Lib.hid (show G ≤ _ from Nat.le_trans hzG hal.size)
      have hrzh := Lib.hid hrz
      have hP := Lib.hid (show (rs.setIfInBounds k (.int .i64 (setOf F.vs))).toList = ints (fillI f n (k + 1)) from by rw [ints_put hrs, fillI_set hfl.out hat.out])
      clear hal hFW hFk q1 q2 q3 q4 q5 hm1 hB hH1 hrs hrz
      go_wp2_with fail
      clear cl1 cl2
      generalize wr.alloc (.cells #[.slice B1 m1 e1, .slice B2 m2 e2] 36) = W4 at *
      refine (cV.out _ hFa.out).mono ?_
      rintro e w2 ⟨rfl, hb2⟩
      have hB2 := Lib.hid (hBa.out.trans (hb2.mono hza.out))
      have hX1 := hHa.out.kept hb2
      obtain ⟨u9, hu9⟩ := hX1.size_cell (x := k) (by rw [hrzh.out]; omega)
      have hfz := hX1.frozen k
      have hN := Lib.hid (hX1.put k (.int .i64 (setOf F.vs)))
      have hBn := Lib.hid (hB2.out.setCell (p := ⟨G, k, none⟩) (Nat.le_refl G) (.int .i64 (setOf F.vs)))
      clear hb2 hX1
      go_wp2_with fail
      go_roundg (n - (k + 1))
      case measure => omega
      case rel => exact ⟨k + 1, _, by omega, rfl, by go_num, hN.out, hP.out, hBn.out⟩
    · obtain rfl : k = n := by omega
      rw [fillI_all hfl.out] at hrs
      have hF := Lib.hid (show IOwn wr G (.slice (some ⟨G, 0, none⟩) k k) f from IOwn.of_has hH1 hrs hfl.out (by omega) (by unfold maxLen; omega))
      have hBh := Lib.hid hB
      clear hH1 hrs hrz hB
      go_wp2_with fail
      go_ret
      obtain rfl := hGg.out
      exact ⟨_, rfl, hF.out, hBh.out⟩
end Go.Proofs.Ytaipdkfbkcknkaa
