/- Slices: the model's l7Back, l7Needs, NeedsOf, LiveAt. -/
import Derived.Test.YtkibkmheomlafaaH0
import Derived.Test.YtkibkmheomlafaaCn
import Derived.Test.YtkibkmheomlafaaJJ
import Derived.Test.YtkibkmheomlafaaAc
namespace Go.Proofs.Ytkibkmheomlafaa
set_option maxRecDepth 100000
set_option linter.unusedVariables false
open Go.RowKit

theorem shr_bit : ∀ n : Fin 16, ∀ k : Fin 4, (((n.val : Int) / 2 ^ ((k.val : Int)).toNat).tmod 2 == 0) = !tb (n.val : Int) k.val := by decide +kernel
theorem shl_bit2 : ∀ x : Fin 4, IntKind.i64.wrap (2 ^ ((x.val : Int)).toNat) = bitN (x.val : Int) := by decide +kernel
theorem shr_tb {L a : Int} (hL : 0 ≤ L ∧ L ≤ 15) (ha : 0 ≤ a ∧ a ≤ 3) : ((L / 2 ^ a.toNat).tmod 2 == 0) = !tb L a.toNat := by
  obtain ⟨n, rfl⟩ := fin16 hL
  have := shr_bit n ⟨a.toNat, by omega⟩
  dsimp only at this
  rwa [Int.toNat_of_nonneg ha.1] at this

set_option maxHeartbeats 1000000 in
theorem l7Back_any (s : St) (L : Int) (w : World) (ho : s.ok = true) (h6 : s.k < 6) (hL : 0 ≤ L ∧ L ≤ 15) :
    Calls Try.prog 102 #[.agg #[.int .i64 s.k, .int .i64 s.a, .int .i64 s.b, .int .i64 s.c, .int .i64 s.u, .int .i64 s.v, .int .i64 s.x], .int .i64 L] w fun e w' => e = .returned (.tuple #[.int .i64 (s.bk L), .bool (s.isN L)]) ∧ Below w.heap.size w w' := by
  have hr := ok_rng (k := s.k) (a := s.a) (b := s.b) (c := s.c) (u := s.u) (v := s.v) (x := s.x) ho
  have hrb := reads_bd s
  have cR : Hid (∀ wx : World, Calls Try.prog 123 #[.agg #[.int .i64 s.k, .int .i64 s.a, .int .i64 s.b, .int .i64 s.c, .int .i64 s.u, .int .i64 s.v, .int .i64 s.x]] wx fun e w' => e = .returned (.int .i64 s.reads) ∧ Below wx.heap.size wx w') := Lib.hid (fun wx => specStmtReads_any s.k s.a s.b s.c s.u s.v s.x wx)
  have cS : Hid (∀ wx : World, Calls Try.prog 124 #[.agg #[.int .i64 s.k, .int .i64 s.a, .int .i64 s.b, .int .i64 s.c, .int .i64 s.u, .int .i64 s.v, .int .i64 s.x]] wx fun e w' => e = .returned (.int .i64 s.sets) ∧ Below wx.heap.size wx w') := Lib.hid (fun wx => specStmtSets_any s.k s.a s.b s.c s.u s.v s.x wx)
  have hH := Lib.hid (Has.new w 65 #[.int .i64 s.k, .int .i64 s.a, .int .i64 s.b, .int .i64 s.c, .int .i64 s.u, .int .i64 s.v, .int .i64 s.x])
  have hB := Lib.hid (show Below w.heap.size w (w.alloc (.cells #[.int .i64 s.k, .int .i64 s.a, .int .i64 s.b, .int .i64 s.c, .int .i64 s.u, .int .i64 s.v, .int .i64 s.x] 65)) from (Below.refl _ _).alloc (Nat.le_refl _) _)
  by_cases hk : 4 ≤ s.k
  · have hbk := Lib.hid (show s.bk L = bits .or .i64 L s.reads by rw [bits_or hL hrb]; exact if_pos hk)
    have hN := Lib.hid (show s.isN L = true by unfold St.isN; rw [decide_eq_true hk]; rfl)
    have h45 : s.k = 4 ∨ s.k = 5 := by omega
    rcases h45 with e4 | e4
    · have k4 : (s.k == 4) = true := by simp [e4]
      clear hr hrb ho h6 hk e4
      go_enter Try.func102, Try.ntmps102
      go_wp2_with fail
      refine (cR.out _).mono ?_
      rintro e w1 ⟨rfl, hb1⟩
      have hB1 := Lib.hid (hB.out.trans (hb1.mono (by simp)))
      clear hb1
      go_wp2_with fail
      go_ret2
      exact ⟨by rw [hbk.out, hN.out]; rfl, hB1.out⟩
    · have k4 : (s.k == 4) = false := by simp [e4]
      have k5 : (s.k == 5) = true := by simp [e4]
      clear hr hrb ho h6 hk e4
      go_enter Try.func102, Try.ntmps102
      go_wp2_with fail
      refine (cR.out _).mono ?_
      rintro e w1 ⟨rfl, hb1⟩
      have hB1 := Lib.hid (hB.out.trans (hb1.mono (by simp)))
      clear hb1
      go_wp2_with fail
      go_ret2
      exact ⟨by rw [hbk.out, hN.out]; rfl, hB1.out⟩
  · have ha : 0 ≤ s.a ∧ s.a ≤ 3 := by omega
    have hse : s.sets = s.a := by unfold St.sets; rw [if_pos ⟨ho, by omega⟩]
    rw [hse] at cS
    have k4 : (s.k == 4) = false := by simp; omega
    have k5 : (s.k == 5) = false := by simp; omega
    have hsh := shr_tb hL ha
    have hshl : IntKind.i64.wrap (2 ^ s.a.toNat) = bitN s.a := by
      have := shl_bit2 ⟨s.a.toNat, by omega⟩
      dsimp only at this
      rwa [Int.toNat_of_nonneg ha.1] at this
    have hN := Lib.hid (show s.isN L = tb L s.a.toNat by unfold St.isN; rw [decide_eq_false hk, Bool.false_or])
    cases ht : tb L s.a.toNat
    · have hbk := Lib.hid (show s.bk L = L by unfold St.bk; rw [if_neg hk, if_neg (by rw [ht]; decide)])
      rw [ht] at hN hsh
      clear hr hrb ho h6 hk ht hse hshl
      go_enter Try.func102, Try.ntmps102
      go_wp2_with fail
      refine (cS.out _).mono ?_
      rintro e w1 ⟨rfl, hb1⟩
      have hB1 := Lib.hid (hB.out.trans (hb1.mono (by simp)))
      clear hb1
      go_wp2_with fail
      go_ret2
      exact ⟨by rw [hbk.out, hN.out]; rfl, hB1.out⟩
    · have hbk := Lib.hid (show s.bk L = bits .or .i64 (bits .andNot .i64 L (bitN s.a)) s.reads by
        rw [bits_diff hL (bitN_le s.a), bits_or (bdf_bd hL.2) hrb]
        unfold St.bk
        rw [if_neg hk, if_pos ht])
      rw [ht] at hN hsh
      have hcg := hH.out.cell
      clear hr hrb ho h6 hk ht hse
      go_enter Try.func102, Try.ntmps102
      go_wp2_with fail
      clear hcg
      refine (cS.out _).mono ?_
      rintro e w1 ⟨rfl, hb1⟩
      have hB1 := Lib.hid (hB.out.trans (hb1.mono (by simp)))
      have hH1 := Lib.hid (hH.out.kept hb1)
      have hc1 := hH1.out.cell
      clear hb1
      have hOk := Lib.hid (fun (wx : World) (hx : Below w1.heap.size w1 wx) => (show Below w1.heap.size w1 wx ∧ wx.cell? ⟨w.heap.size, 0, none⟩ = some (.int .i64 s.k) ∧ wx.cell? ⟨w.heap.size, 1, none⟩ = some (.int .i64 s.a) ∧ wx.cell? ⟨w.heap.size, 2, none⟩ = some (.int .i64 s.b) ∧ wx.cell? ⟨w.heap.size, 3, none⟩ = some (.int .i64 s.c) ∧ wx.cell? ⟨w.heap.size, 4, none⟩ = some (.int .i64 s.u) ∧ wx.cell? ⟨w.heap.size, 5, none⟩ = some (.int .i64 s.v) ∧ wx.cell? ⟨w.heap.size, 6, none⟩ = some (.int .i64 s.x) from ⟨hx, (hH1.out.kept hx).cell 0, (hH1.out.kept hx).cell 1, (hH1.out.kept hx).cell 2, (hH1.out.kept hx).cell 3, (hH1.out.kept hx).cell 4, (hH1.out.kept hx).cell 5, (hH1.out.kept hx).cell 6⟩))
      go_wp2_with fail
      go_region_held3 (fun wx => Below w1.heap.size w1 wx ∧ wx.cell? ⟨w.heap.size, 0, none⟩ = some (.int .i64 s.k) ∧ wx.cell? ⟨w.heap.size, 1, none⟩ = some (.int .i64 s.a) ∧ wx.cell? ⟨w.heap.size, 2, none⟩ = some (.int .i64 s.b) ∧ wx.cell? ⟨w.heap.size, 3, none⟩ = some (.int .i64 s.c) ∧ wx.cell? ⟨w.heap.size, 4, none⟩ = some (.int .i64 s.u) ∧ wx.cell? ⟨w.heap.size, 5, none⟩ = some (.int .i64 s.v) ∧ wx.cell? ⟨w.heap.size, 6, none⟩ = some (.int .i64 s.x)) (first | exact hOk.out _ ((Below.refl _ _).drew) | exact hOk.out _ (bt6 (by assumption) hbq) | exact hOk.out _ (bs6 (by assumption)) | exact hOk.out _ (bd6 (by assumption)) | go_keep) (first | (go_at_call 123; refine (cR.out _).mono ?_; rintro e q ⟨rfl, hbq⟩))
      rename_i hHeld
      have hB3 := Lib.hid (hB1.out.trans (hHeld.1.mono hB1.out.size))
      go_wp2_with fail
      go_ret2
      exact ⟨by rw [hbk.out, hN.out]; rfl, hB3.out⟩
theorem drop_len_le {ps : List St} {n : Nat} (h : ps.length = n) (k : Nat) (L : Int) : (ndx k (ps.drop k) L).length ≤ n - k := by
  rw [ndx_len]
  have := sl_len (ps.drop k) L
  rw [List.length_drop] at this
  omega
set_option maxHeartbeats 2000000 in
theorem l7Needs_any (A : Option Addr) (n c : Nat) (ps : List St) (L : Int) (w : World) (h : Lst w w.heap.size A n ps) (hn : n ≤ 10) (hok : ∀ s ∈ ps, s.ok = true ∧ s.k < 6) (hL : 0 ≤ L ∧ L ≤ 15) :
    Calls Try.prog 64 #[.slice A n c, .int .i64 L] w fun e w' => ∃ v, e = .returned (.tuple #[v, .int .i64 (needL ps L)]) ∧ IOwn w' w.heap.size v (ndx 0 ps L) ∧ Below w.heap.size w w' := by
  have hB0 : Below w.heap.size w (w.alloc (.cells #[] 3)) := (Below.refl _ _).alloc (Nat.le_refl _) _
  have hN := Lib.hid (show IOwn (w.alloc (.cells #[] 3)) w.heap.size (.slice (some ⟨w.heap.size, 0, none⟩) 0 0) [] from
    ⟨rfl, .inr ⟨w.heap.size, 0, #[], rfl, Nat.le_refl _, Has.new w _ _, Nat.le_refl _, Nat.zero_le _, rfl, rfl⟩⟩)
  obtain ⟨i0, hi0, hz0, hz1', hz2'⟩ := info_parts info_int
  have hl := h.1
  have hLs := Lib.hid h
  have hOk := Lib.hid hok
  have hD := Lib.hid (show ps.drop n = [] from List.drop_eq_nil_of_le (by omega))
  clear h hok
  go_enter Try.func64, Try.ntmps64
  go_wp2_with fail
  go_loopg [6, 7, 8] n (fun gn o l v wr => ∃ k : Nat, k ≤ n ∧ gn = k ∧ v = .int .i64 ((k : Int) - 1) ∧ l = .int .i64 (needL (ps.drop k) L) ∧ IOwn wr w.heap.size o (ndx k (ps.drop k) L) ∧ Below w.heap.size w wr)
  case atStart => exact ⟨n, Nat.le_refl _, rfl, by go_num, by rw [hD.out]; rfl, by rw [hD.out]; exact hN.out, hB0⟩
  case round =>
    obtain ⟨k, hk, hgn, rfl, rfl, hO, hb⟩ := hrel
    have hgk : gk = k := hgn
    obtain ⟨Ao, co, hvo, hco, hmo⟩ := hO.form
    subst hvo
    have hz2 := hb.size
    have hOh := Lib.hid hO
    have hbh := Lib.hid hb
    have hlo := drop_len_le hl k L
    clear hgn hO hb
    by_cases hk0 : 0 < k
    · obtain ⟨j, rfl⟩ : ∃ j, k = j + 1 := ⟨k - 1, by omega⟩
      have e1 : ((j + 1 : Nat) : Int) - 1 = (j : Int) := by omega
      rw [e1]
      obtain ⟨g, off, s, rfl, hg, hs, hat⟩ := (hLs.out.below hbh.out).at_ (k := j) (by omega)
      obtain ⟨c0, c1, c2, c3, c4, c5, c6⟩ := hat.open_
      have hsk := hOk.out s (List.mem_of_getElem? hs)
      have hLb := needL_bd hL (ps := ps.drop (j + 1)) (fun t ht => hOk.out t (List.mem_of_mem_drop ht))
      have cB := Lib.hid (fun wx => l7Back_any s (needL (ps.drop (j + 1)) L) wx hsk.1 hsk.2 hLb)
      have hst1 := Lib.hid (needL_step hs L)
      have hst2 := Lib.hid (ndx_step hs j L)
      have hj0 : (0 : Int) ≤ (j : Int) := by omega
      have hj1 : (j : Int) < (n : Int) := by omega
      clear hat hs hsk hLb
      go_wp2_with fail
      refine (cB.out _).mono ?_
      rintro e w3 ⟨rfl, hb3⟩
      have hB3 := Lib.hid (hbh.out.trans (hb3.mono hz2))
      have hO3 := Lib.hid (hOh.out.below hb3)
      clear hb3 hbh hOh c0 c1 c2 c3 c4 c5 c6
      cases hne : s.isN (needL (ps.drop (j + 1)) L)
      · have hR := Lib.hid (show ndx j (ps.drop j) L = ndx (j + 1) (ps.drop (j + 1)) L by rw [hst2.out, hne]; exact if_neg (by decide))
        clear hne
        go_wp2_with fail
        go_roundg j
        case measure => omega
        case rel => exact ⟨j, by omega, rfl, by go_num, by rw [hst1.out], by rw [hR.out]; exact hO3.out, hB3.out⟩
      · have hR := Lib.hid (show ndx j (ps.drop j) L = (j : Int) :: ndx (j + 1) (ps.drop (j + 1)) L by rw [hst2.out, hne]; exact if_pos rfl)
        have hrow := Lib.hid (show IOwn (w3.alloc (.cells #[.int .i64 j] 3)) w.heap.size (.slice (some ⟨w3.heap.size, 0, none⟩) 1 1) [(j : Int)] from IOwn.of_has (Has.new w3 3 #[.int .i64 j]) rfl rfl hB3.out.size (by decide))
        have hO4 := Lib.hid (hO3.out.alloc (.cells #[.int .i64 j] 3))
        have hB4 := Lib.hid (hB3.out.alloc hB3.out.size (.cells #[.int .i64 j] 3))
        clear hne hO3 hB3
        go_wp2_with (at_builtin; refine wpList_append_rows rfl (.tmp 34) (.tmp 35) 29 rfl w.heap.size 3 i0 _ 1 8 Try.underlying29 hi0 hz0 hz1' hz2' rfl (by decide) (.slice (some ⟨w3.heap.size, 0, none⟩) 1 1) 1 (ints [(j : Int)]) rfl (by exact hrow.out) w.heap.size (.slice Ao (ndx (j + 1) (ps.drop (j + 1)) L).length co) (ndx (j + 1) (ps.drop (j + 1)) L).length (ints (ndx (j + 1) (ps.drop (j + 1)) L)) rfl (by exact hO4.out) (ints_one _) (by unfold maxLen; omega) (by omega) (by exact hB4.out.size) ?_; intro v4 w4 hown4 hgrow4 hat4)
        have hF := Lib.hid (IOwn.append_ (news := ndx (j + 1) (ps.drop (j + 1)) L) hrow.out hown4 hgrow4 hB4.out (by exact hB4.out.size))
        obtain ⟨A5, c5, hv5, _, _⟩ := hF.out.1.form
        clear hown4 hgrow4 hat4
        subst hv5
        go_wp2_with fail
        go_roundg j
        case measure => omega
        case rel => exact ⟨j, by omega, rfl, by go_num, by rw [hst1.out], by rw [hR.out]; exact hF.out.1, hF.out.2⟩
    · obtain rfl : k = 0 := by omega
      go_wp2_with fail
      go_ret2
      exact ⟨_, rfl, by simpa using hOh.out, hbh.out⟩
theorem specNeedsOf_any (A : Option Addr) (n c : Nat) (ps : List St) (vars : Int) (w : World) (h : Lst w w.heap.size A n ps) (hn : n ≤ c) (hc : c ≤ maxLen) (hbig : n ≤ 1048576) :
    Calls Try.prog 29 #[.slice A n c, .int .i64 vars] w (Lbd w (needsTo ps vars) (okS ps vars)) := by
  have cP := Lib.hid (specPlainOk_any A n c ps w h hn hc hbig)
  have hL := Lib.hid h
  have hl := h.1
  clear h
  cases hp : plainOk ps
  · have hK := Lib.hid (show okS ps vars = false by unfold okS; rw [hp]; rfl)
    have hR := Lib.hid (show needsTo ps vars = [] by unfold needsTo; rw [hK.out]; rfl)
    have hP := Lib.hid hp
    clear hp
    go_enter Try.func29, Try.ntmps29
    go_wp2_with fail
    refine cP.out.mono ?_
    rw [hP.out]
    rintro e w1 ⟨rfl, hb⟩
    go_wp2_with fail
    go_ret2
    exact ⟨_, by rw [hK.out]; rfl, by rw [hR.out]; exact IOwn.nil _ _, hb⟩
  · cases hv : inB vars 0 15
    · have hK := Lib.hid (show okS ps vars = false by unfold okS; rw [hp, hv]; rfl)
      have hR := Lib.hid (show needsTo ps vars = [] by unfold needsTo; rw [hK.out]; rfl)
      have hP := Lib.hid hp
      have hV := Lib.hid hv
      clear hp hv
      go_enter Try.func29, Try.ntmps29
      go_wp2_with fail
      refine cP.out.mono ?_
      rw [hP.out]
      rintro e w1 ⟨rfl, hb⟩
      go_wp2_with fail
      refine (l1In_any _ _ _ _).mono ?_
      rw [hV.out]
      rintro e w' ⟨rfl, rfl⟩
      go_wp2_with fail
      go_ret2
      exact ⟨_, by rw [hK.out]; rfl, by rw [hR.out]; exact IOwn.nil _ _, hb⟩
    · have hK := Lib.hid (show okS ps vars = true by unfold okS; rw [hp, hv]; rfl)
      have hR := Lib.hid (show needsTo ps vars = ndx 0 ps vars by unfold needsTo; rw [hK.out]; rfl)
      obtain ⟨h10, hok⟩ := plain_iff.1 hp
      have hvb := inB_iff.1 hv
      have cN := Lib.hid (fun wx (hx : Lst wx wx.heap.size A n ps) => l7Needs_any A n c ps vars wx hx (by omega) hok hvb)
      have hP := Lib.hid hp
      have hV := Lib.hid hv
      clear hp hv hok hvb
      go_enter Try.func29, Try.ntmps29
      go_wp2_with fail
      refine cP.out.mono ?_
      rw [hP.out]
      rintro e w1 ⟨rfl, hb⟩
      go_wp2_with fail
      refine (l1In_any _ _ _ _).mono ?_
      rw [hV.out]
      rintro e w' ⟨rfl, rfl⟩
      go_wp2_with fail
      refine (cN.out _ ((hL.out.below hb).more hb.size)).mono ?_
      rintro e w2 ⟨v, rfl, ho, hb2⟩
      obtain ⟨A2, c2, hv2, _, _⟩ := ho.form
      subst hv2
      have hF := Lib.hid (show Lbd w (needsTo ps vars) (okS ps vars) (.returned (.tuple #[.slice A2 (ndx 0 ps vars).length c2, .bool true])) w2 from ⟨_, by rw [hK.out], by rw [hR.out]; exact owns_le ho hb.size, hb.trans (hb2.mono hb.size)⟩)
      clear ho hb2
      go_wp2_with fail
      go_ret2
      exact hF.out
end Go.Proofs.Ytkibkmheomlafaa
