/- PushOn: the model's function. -/
import Derived.Test.YtbjpodgmmpchjaaAe
import Derived.Maps.AppendAt
namespace Go.Proofs.Ytbjpodgmmpchjaa
set_option maxRecDepth 100000
set_option linter.unusedVariables false
open Go.RowKit

theorem l3List_any (A : Option Addr) (n c : Nat) (ds : List Int) (m : Int) (w : World) (h : Ils w w.heap.size A n ds) (hn : n ≤ maxLen) :
    Calls Try.prog 64 #[.slice A n c, .int .i64 m] w fun e w' => e = .returned (.bool (lstOk m ds)) ∧ Below w.heap.size w w' := by
  have hI := Lib.hid h
  have hL := Lib.hid h.1
  have hT := Lib.hid (show ds.take n = ds from List.take_of_length_le (by rw [h.1]; exact Nat.le_refl _))
  have hn9 : n ≤ 9223372036854775807 := by unfold maxLen at hn; omega
  have cW := Lib.hid (fun d wx => l1In_any d 0 m wx)
  clear h hn
  go_enter Try.func64, Try.ntmps64
  go_wp2_with fail
  go_loopg [5] n (fun gn v wr => ∃ k : Nat, k ≤ n ∧ gn = n - k ∧ v = .int .i64 k ∧ numsOk m (ds.take k) = true ∧ Below w.heap.size w wr)
  case atStart => exact ⟨0, Nat.zero_le _, rfl, rfl, rfl, Below.refl _ _⟩
  case round =>
    obtain ⟨k, hk, hgn, rfl, hok, hB⟩ := hrel
    have hgk : gk = n - k := hgn
    have hB' := Lib.hid hB
    have hOk := Lib.hid hok
    clear hgn hok
    by_cases hlt : k < n
    · obtain ⟨g, off, d, rfl, hg, hd, c0⟩ := (hI.out.below hB).at_ hlt
      have hk0 : (0 : Int) ≤ (k : Int) := by omega
      have hk1 : (k : Int) < (n : Int) := by omega
      have hD := Lib.hid hd
      clear hB hd
      cases hin : inB d 0 m
      · have hR := Lib.hid (show lstOk m ds = false by unfold lstOk; rw [numsOk_no hD.out hin, Bool.and_false])
        go_wp2_with fail
        refine (cW.out d _).mono ?_
        rw [hin]
        rintro e w2 ⟨rfl, rfl⟩
        go_wp2_with fail
        go_ret
        exact ⟨ret_bool hR.out, hB'.out⟩
      · have hR := Lib.hid (numsOk_step hOk.out hD.out hin)
        go_wp2_with fail
        refine (cW.out d _).mono ?_
        rw [hin]
        rintro e w2 ⟨rfl, rfl⟩
        go_wp2_with fail
        go_roundg (n - (k + 1))
        case measure => omega
        case rel => exact ⟨k + 1, by omega, rfl, by go_num, hR.out, hB'.out⟩
    · obtain rfl : k = n := by omega
      have hR := Lib.hid (show lstOk m ds = decide (k = 81) by
        unfold lstOk
        rw [show numsOk m ds = true by rw [← hOk.out, hT.out], Bool.and_true, hL.out])
      clear hB hOk
      by_cases h81 : k = 81
      · have hF := Lib.hid (show lstOk m ds = true by rw [hR.out]; exact decide_eq_true h81)
        clear hR
        subst h81
        go_wp2_with fail
        go_ret
        exact ⟨ret_bool hF.out, hB'.out⟩
      · have hF := Lib.hid (show lstOk m ds = false by rw [hR.out]; exact decide_eq_false h81)
        have h82 : ((k : Int) == 81) = false := by simp; omega
        clear hR
        go_wp2_with fail
        go_ret
        exact ⟨ret_bool hF.out, hB'.out⟩

/-- What lies ahead of the append: an empty row, and the list's cells. -/
theorem push_row {w : World} {base ga off : Nat} {ds : List Int} (hz : base ≤ w.heap.size) (h : Ils w w.heap.size (some ⟨ga, off, none⟩) 81 ds) :
    (w.alloc (.cells #[] 3)).ownsRow base 3 1 (.slice (some ⟨w.heap.size, 0, none⟩) 0 0) 0 (ints []) ∧ ∀ j u, (ints ds)[j]? = some u → (w.alloc (.cells #[] 3)).cell? ((⟨ga, off, none⟩ : Addr).add j) = some u := by
  refine ⟨⟨rfl, .inr ⟨w.heap.size, 0, #[], rfl, hz, Has.new w _ _, Nat.le_refl _, Nat.zero_le _, rfl, rfl⟩⟩, fun j u hu => ?_⟩
  obtain ⟨g, o, e, hg, hc⟩ := h.2 (by decide)
  injection e with e
  injection e with e1 e2 _
  subst e1 e2
  unfold ints at hu
  rw [List.getElem?_map] at hu
  obtain ⟨d, hd, rfl⟩ := Option.map_eq_some_iff.1 hu
  have h1 := hc j d hd
  rw [← h1, ((Below.refl w.heap.size w).alloc (Nat.le_refl _) (.cells #[] 3)).cell (by unfold Addr.add; split <;> exact hg)]
  congr 1
  unfold Addr.add
  split
  · (rename_i h0; simp at h0 ⊢; try omega)
  · (simp; try omega)

set_option maxHeartbeats 2000000 in
theorem specPushOn_any (A Ad : Option Addr) (n c nd cd : Nat) (ps : List St) (ds : List Int) (w : World) (h : Lst w w.heap.size A n ps) (hn : n ≤ c) (hc : c ≤ maxLen) (hbig : n ≤ 1048576) (hd : Ils w w.heap.size Ad nd ds) (hnd : nd ≤ maxLen) :
    Calls Try.prog 27 #[.slice A n c, .slice Ad nd cd] w (Lbd w (pushOf ps ds) (pushOk ps ds)) := by
  have hC := Lib.hid (l1Unrolled_any A n c ps w h hn hc hbig)
  have hDs := Lib.hid hd
  have cL := Lib.hid (fun wx (hx : Ils wx wx.heap.size Ad nd ds) => l3List_any Ad nd cd ds 9 wx hx hnd)
  clear h hc hd
  cases hu : unrolled ps with
  | none =>
    have hU := Lib.hid hu
    have hR := Lib.hid (show pushOf ps ds = [] by unfold pushOf; rw [hu])
    have hR2 := Lib.hid (show pushOk ps ds = false by unfold pushOk; rw [hu])
    clear hu
    go_enter Try.func27, Try.ntmps27
    go_wp2_with fail
    refine (hC.out).mono ?_
    rw [hU.out]
    rintro e w1 ⟨v, rfl, hown, hb⟩
    clear hown
    go_wp2_with fail
    go_ret2
    exact ⟨_, by rw [hR2.out]; rfl, by rw [hR.out]; exact IOwn.nil _ _, hb⟩
  | some os =>
    obtain ⟨_, hlen, _, hNL, hOK⟩ := unrolled_parts hu
    have hU := Lib.hid hu
    cases hk : lstOk 9 ds
    · have hR := Lib.hid (show pushOf ps ds = [] by unfold pushOf; rw [hu, hk]; simp)
      have hR2 := Lib.hid (show pushOk ps ds = false by unfold pushOk; rw [hu, hk]; simp)
      rw [hk] at cL
      clear hu hNL hOK hk
      go_enter Try.func27, Try.ntmps27
      go_wp2_with fail
      refine (hC.out).mono ?_
      rw [hU.out]
      rintro e w1 ⟨v, rfl, hown', hb⟩
      have hown : Own w1 w.heap.size v os := hown' os rfl
      obtain ⟨A3, c3, hv, hlc, hcm⟩ := hown.form
      subst hv
      have hD1 := Lib.hid ((hDs.out.below hb).more hb.size)
      have hB1 := Lib.hid hb
      clear hown hown' hb
      go_wp2_with (first | (go_at_call 64; refine (cL.out _ hD1.out).mono ?_; rintro e w2 ⟨rfl, hb2⟩))
      go_ret2
      exact ⟨_, by rw [hR2.out]; rfl, by rw [hR.out]; exact IOwn.nil _ _, hB1.out.trans (hb2.mono hB1.out.size)⟩
    · by_cases h10 : os.length ≤ 10
      · have hR := Lib.hid (show pushOf ps ds = pushed os ds by unfold pushOf; rw [hu, hk]; simp [h10])
        have hR2 := Lib.hid (show pushOk ps ds = true by unfold pushOk; rw [hu, hk]; simp [h10])
        have hOkN := Lib.hid (show ∀ s ∈ os, s.ok = true ∧ s.notLoop = true from fun s hs => ⟨List.all_eq_true.1 hOK s hs, hNL s hs⟩)
        have hLB := Lib.hid (lstOk_bd hk)
        obtain rfl : nd = 81 := by rw [← hDs.out.1]; exact hLB.out.1
        obtain ⟨i0, hi0, hz0, hz1', hz2'⟩ := info_parts info_int
        obtain ⟨ga, off, rfl, _, _⟩ := hDs.out.2 (by decide)
        have hl81 : (ints ds).length = 81 * 1 := by rw [ints_length, hLB.out.1]
        rw [hk] at cL
        clear hu hNL hOK hk
        go_enter Try.func27, Try.ntmps27
        go_wp2_with fail
        refine (hC.out).mono ?_
        rw [hU.out]
        rintro e w1 ⟨v, rfl, hown', hb⟩
        have hown : Own w1 w.heap.size v os := hown' os rfl
        obtain ⟨A3, c3, hv, hlc, hcm⟩ := hown.form
        subst hv
        generalize hm : os.length = m at hlen hlc h10 ⊢
        have hM := Lib.hid hm
        have hO := Lib.hid (show Lst w1 w1.heap.size A3 m os from by
          have := hown.lst
          rwa [hm] at this)
        have hD1 := Lib.hid ((hDs.out.below hb).more hb.size)
        have hB1 := Lib.hid hb
        clear hown hown' hm hb
        have g10 : ¬ 10 < m := by omega
        go_wp2_with (first | (go_at_call 64; refine (cL.out _ hD1.out).mono ?_; rintro e w1b ⟨rfl, hb2⟩; have hzb := hb2.size; have hPR := Lib.hid (push_row (base := w1.heap.size) hzb (hD1.out.below hb2 |>.more hzb)); have hz1b : w.heap.size ≤ w1b.heap.size := (Nat.le_trans hB1.out.size hzb)) | (at_builtin; refine wpList_append_own_at _ rfl (.tmp 28) (.tmp 29) 24 rfl w1.heap.size 3 i0 _ 1 8 Try.underlying24 hi0 hz0 hz1' hz2' rfl (by decide) (.slice (some ⟨w1b.heap.size, 0, none⟩) 0 0) 0 (ints []) rfl (by exact hPR.out.1) ⟨ga, off, none⟩ 81 cd (ints ds) rfl hl81 (by exact hPR.out.2) (ints_one ds) (by decide) (by decide) (by simp; omega) ?_; intro v' w4 hown4 hgrow4 _ hblk; obtain ⟨A5, c5, hv5, _, _⟩ := owns_form hown4; subst hv5))
        have hBb := Lib.hid (((hB1.out.trans (hb2.mono hB1.out.size)).alloc hz1b (.cells #[] 3)).grown hgrow4 (by simp; omega) (fun k hk => by
          have h1 : w1b.heap.size = k := by simpa [Value.ownBlock] using hk
          omega))
        have hI5 := Lib.hid (show IOwn w4 w1.heap.size (.slice A5 81 c5) ds from by
          unfold IOwn
          rw [hLB.out.1]
          exact hown4)
        have hL4 := Lib.hid (show Lst w4 w1.heap.size A3 m os from (hO.out.below hb2).below (((Below.refl w1.heap.size w1b).alloc hzb (.cells #[] 3)).grown hgrow4 (by simp; omega) (fun k hk => by
          have h1 : w1b.heap.size = k := by simpa [Value.ownBlock] using hk
          omega)))
        have hz4 : w1.heap.size ≤ w4.heap.size := by
          have h5 := hgrow4.size
          simp at h5
          omega
        have hz1w := hB1.out.size
        clear hb2 hown4 hgrow4 hblk
        have cP := Lib.hid (l3Push_any A3 A5 m c3 c5 w1.heap.size os ds w4 hL4.out hM.out (by omega) hOkN.out hI5.out hLB.out.1 (fun x hx => (hLB.out.2 x hx).1) (push_V2 h10 hLB.out.2 hLB.out.1) hz4)
        refine (cP.out).mono ?_
        rintro e w5 ⟨v5, rfl, hO5, hb5⟩
        have hF := Lib.hid (show Lbd w (pushOf ps ds) (pushOk ps ds) (.returned (.tuple #[v5, .bool true])) w5 from ⟨_, by rw [hR2.out], by rw [hR.out]; exact owns_le hO5 hz1w, hBb.out.trans (hb5.mono hz1w)⟩)
        clear hO5 hb5
        go_wp2_with fail
        go_ret2
        exact hF.out
      · have hR := Lib.hid (show pushOf ps ds = [] by unfold pushOf; rw [hu]; simp [h10])
        have hR2 := Lib.hid (show pushOk ps ds = false by unfold pushOk; rw [hu]; simp [h10])
        rw [hk] at cL
        clear hu hNL hOK hk
        go_enter Try.func27, Try.ntmps27
        go_wp2_with fail
        refine (hC.out).mono ?_
        rw [hU.out]
        rintro e w1 ⟨v, rfl, hown', hb⟩
        have hown : Own w1 w.heap.size v os := hown' os rfl
        obtain ⟨A3, c3, hv, hlc, hcm⟩ := hown.form
        subst hv
        have hD1 := Lib.hid ((hDs.out.below hb).more hb.size)
        have hB1 := Lib.hid hb
        clear hown hown' hb
        have g10 : 10 < os.length := by omega
        go_wp2_with (first | (go_at_call 64; refine (cL.out _ hD1.out).mono ?_; rintro e w2 ⟨rfl, hb2⟩))
        go_ret2
        exact ⟨_, by rw [hR2.out]; rfl, by rw [hR.out]; exact IOwn.nil _ _, hB1.out.trans (hb2.mono hB1.out.size)⟩

end Go.Proofs.Ytbjpodgmmpchjaa
