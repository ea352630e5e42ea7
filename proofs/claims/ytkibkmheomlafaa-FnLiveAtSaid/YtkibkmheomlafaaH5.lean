/- Slices: the program's markedTo, NeedsOf, SliceOf, LiveAt. -/
import Derived.Test.YtkibkmheomlafaaH1
import Derived.Test.YtkibkmheomlafaaAb
namespace Go.Proofs.Ytkibkmheomlafaa
set_option maxRecDepth 100000
set_option linter.unusedVariables false
open Go.RowKit

/-- How a marker is told. -/
def Mrd (w : World) (ps : List St) (vars to : Int) (e : Ending) (w' : World) : Prop :=
  ∃ L m f : Int, e = .returned (.tuple #[.agg (mkA L m f), .bool (okS ps vars && inB to 0 ps.length)]) ∧ Below w.heap.size w w' ∧ ((okS ps vars && inB to 0 ps.length) = true → L = needL (ps.drop to.toNat) vars ∧ f = byL (ps.drop to.toNat) vars ∧ Msk ps vars to.toNat m)

set_option maxHeartbeats 4000000 in
theorem markedTo_any (A : Option Addr) (n c : Nat) (ps : List St) (vars to : Int) (w : World) (h : Lst w w.heap.size A n ps) (hn : n ≤ c) (hc : c ≤ maxLen) :
    Calls Try.prog 51 #[.slice A n c, .int .i64 vars, .int .i64 to] w (Mrd w ps vars to) := by
  have hR0 := Lib.hid (Has.new w 60 #[.int .i64 0, .int .i64 0, .int .i64 0])
  have hB0 : Below w.heap.size w (w.alloc (.cells #[.int .i64 0, .int .i64 0, .int .i64 0] 60)) := (Below.refl _ _).alloc (Nat.le_refl _) _
  have cP := Lib.hid (PlainOk_any A n c ps _ ((h.below hB0).more hB0.size) hn hc)
  have cV := Lib.hid (fun wx => varsOk_any vars wx)
  have cI := Lib.hid (fun wx => within_any to 0 n wx)
  have hL := Lib.hid h
  have hl := h.1
  have hB0h := Lib.hid hB0
  have hn9 : n ≤ 9223372036854775807 := by unfold maxLen at hc; omega
  clear h hc hB0
  cases hp : plainOk ps
  · have hK := Lib.hid (show (okS ps vars && inB to 0 ps.length) = false by unfold okS; rw [hp]; rfl)
    have hP := Lib.hid hp
    clear hp
    go_enter Try.func51, Try.ntmps51
    go_wp2_with fail
    refine cP.out.mono ?_
    rw [hP.out]
    rintro e w1 ⟨rfl, hb⟩
    have hR1 := hR0.out.kept hb
    have hB1 := Lib.hid (hB0h.out.trans (hb.mono hB0h.out.size))
    have hz1 : w.heap.size < w1.heap.size := hR1.lt
    have cr := hR1.cell
    have fr := hR1.frozen
    clear hb
    go_wp2_with fail
    refine bodyPost_ret (v := .tuple #[.agg (mkA 0 0 0), .bool false]) (by simp [results, Try.results51, go_sem, cr, mkA]) rfl ⟨0, 0, 0, by rw [hK.out], ?_, fun h => by rw [hK.out] at h; cases h⟩
    refine Below.setCell ?_ (by simp) _
    refine Below.setCell ?_ (by simp) _
    refine Below.setCell ?_ (by simp) _
    exact hB1.out
  · cases hv : inB vars 0 15
    · have hK := Lib.hid (show (okS ps vars && inB to 0 ps.length) = false by unfold okS; rw [hp, hv]; rfl)
      have hP := Lib.hid hp
      rw [hv] at cV
      clear hp hv
      go_enter Try.func51, Try.ntmps51
      go_wp2_with fail
      refine cP.out.mono ?_
      rw [hP.out]
      rintro e w1 ⟨rfl, hb⟩
      have hR1 := hR0.out.kept hb
      have hB1 := Lib.hid (hB0h.out.trans (hb.mono hB0h.out.size))
      have hz1 : w.heap.size < w1.heap.size := hR1.lt
      have cr := hR1.cell
      have fr := hR1.frozen
      clear hb
      go_wp2_with fail
      refine (cV.out _).mono ?_
      rintro e w' ⟨rfl, rfl⟩
      go_wp2_with fail
      refine bodyPost_ret (v := .tuple #[.agg (mkA 0 0 0), .bool false]) (by simp [results, Try.results51, go_sem, cr, mkA]) rfl ⟨0, 0, 0, by rw [hK.out], ?_, fun h => by rw [hK.out] at h; cases h⟩
      refine Below.setCell ?_ (by simp) _
      refine Below.setCell ?_ (by simp) _
      refine Below.setCell ?_ (by simp) _
      exact hB1.out
    · cases ht : inB to 0 n
      · have hK := Lib.hid (show (okS ps vars && inB to 0 ps.length) = false by rw [hl, ht, Bool.and_false])
        have hP := Lib.hid hp
        rw [hv] at cV
        rw [ht] at cI
        clear hp hv ht
        go_enter Try.func51, Try.ntmps51
        go_wp2_with fail
        refine cP.out.mono ?_
        rw [hP.out]
        rintro e w1 ⟨rfl, hb⟩
        have hR1 := hR0.out.kept hb
        have hB1 := Lib.hid (hB0h.out.trans (hb.mono hB0h.out.size))
        have hz1 : w.heap.size < w1.heap.size := hR1.lt
        have cr := hR1.cell
        have fr := hR1.frozen
        clear hb
        go_wp2_with fail
        refine (cV.out _).mono ?_
        rintro e w' ⟨rfl, rfl⟩
        go_wp2_with fail
        refine (cI.out _).mono ?_
        rintro e w' ⟨rfl, rfl⟩
        go_wp2_with fail
        refine bodyPost_ret (v := .tuple #[.agg (mkA 0 0 0), .bool false]) (by simp [results, Try.results51, go_sem, cr, mkA]) rfl ⟨0, 0, 0, by rw [hK.out], ?_, fun h => by rw [hK.out] at h; cases h⟩
        refine Below.setCell ?_ (by simp) _
        refine Below.setCell ?_ (by simp) _
        refine Below.setCell ?_ (by simp) _
        exact hB1.out
      · have hK := Lib.hid (show (okS ps vars && inB to 0 ps.length) = true by rw [hl, ht]; unfold okS; rw [hp, hv]; rfl)
        have hP := Lib.hid hp
        obtain ⟨h10, hok⟩ := plain_iff.1 hp
        have hPl := Lib.hid hp
        have hOk := Lib.hid hok
        have hVb := inB_iff.1 hv
        have htb := inB_iff.1 ht
        rw [hv] at cV
        rw [ht] at cI
        obtain ⟨t, rfl⟩ : ∃ t : Nat, to = t := ⟨to.toNat, by omega⟩
        have htn : t ≤ n := by omega
        clear hp hv ht hok htb
        go_enter Try.func51, Try.ntmps51
        go_wp2_with fail
        refine cP.out.mono ?_
        rw [hP.out]
        rintro e w1 ⟨rfl, hb⟩
        have hR1 := hR0.out.kept hb
        have hB1 := Lib.hid (hB0h.out.trans (hb.mono hB0h.out.size))
        have hz1 : w.heap.size < w1.heap.size := hR1.lt
        have hD := Lib.hid (show ps.drop n = [] from List.drop_eq_nil_of_le (by omega))
        have hG0 := Lib.hid (Has.new w1 60 #[.int .i64 vars, .int .i64 0, .int .i64 1])
        have hR2 := Lib.hid (hR1.alloc (.cells #[.int .i64 vars, .int .i64 0, .int .i64 1] 60))
        have hB2 := Lib.hid (hB1.out.alloc hB1.out.size (.cells #[.int .i64 vars, .int .i64 0, .int .i64 1] 60))
        clear hb hR1
        go_wp2_with fail
        refine (cV.out _).mono ?_
        rintro e w' ⟨rfl, rfl⟩
        go_wp2_with fail
        refine (cI.out _).mono ?_
        rintro e w' ⟨rfl, rfl⟩
        go_wp2_with fail
        generalize w1.alloc (.cells #[.int .i64 vars, .int .i64 0, .int .i64 1] 60) = W1 at hG0 hR2 hB2 ⊢
        have hgw : w.heap.size < w1.heap.size := hz1
        generalize w1.heap.size = g at hG0 hgw ⊢
        have hG1 := Lib.hid (show Has W1 g 60 (mkA (needL (ps.drop n) vars) 0 (byL (ps.drop n) vars)) from by rw [hD.out]; exact hG0.out)
        have hM1 := Lib.hid (show Msk ps vars n 0 from by have := Msk.none (ps := ps) (L := vars); rwa [hl] at this)
        go_loopg [9] (n - t) (fun gn v wr => ∃ (k : Nat) (m : Int), t ≤ k ∧ k ≤ n ∧ gn = k - t ∧ v = .int .i64 ((k : Int) - 1) ∧ Has wr g 60 (mkA (needL (ps.drop k) vars) m (byL (ps.drop k) vars)) ∧ Msk ps vars k m ∧ Has wr w.heap.size 60 #[.int .i64 0, .int .i64 0, .int .i64 0] ∧ Below w.heap.size w wr)
        case atStart => exact ⟨n, 0, htn, Nat.le_refl _, rfl, by go_num, hG1.out, hM1.out, hR2.out, hB2.out⟩
        case round =>
          obtain ⟨k, m, htk, hkn, hgn, rfl, hG, hM, hR, hB⟩ := hrel
          have hgk : gk = k - t := hgn
          have hGh := Lib.hid hG
          have hMh := Lib.hid hM
          have hRh := Lib.hid hR
          have hBh := Lib.hid hB
          clear hgn hM
          by_cases hlt : t < k
          · obtain ⟨j, rfl⟩ : ∃ j, k = j + 1 := ⟨k - 1, by omega⟩
            have e1 : ((j + 1 : Nat) : Int) - 1 = (j : Int) := by omega
            rw [e1]
            obtain ⟨gs, off, s, rfl, hgs, hs, hat⟩ := (hL.out.below hB).at_ (k := j) (by omega)
            obtain ⟨c0, c1, c2, c3, c4, c5, c6⟩ := hat.open_
            have hsk := hOk.out s (List.mem_of_getElem? hs)
            have hLb := needL_bd hVb (ps := ps.drop (j + 1)) (fun t ht => hOk.out t (List.mem_of_mem_drop ht))
            have hFb := byL_top hPl.out vars (j + 1)
            have cM := Lib.hid (mark_any g s (needL (ps.drop (j + 1)) vars) m (byL (ps.drop (j + 1)) vars) j wr hG hsk.1 hsk.2 hLb (by omega) hFb)
            have hst := Lib.hid (mark_step hOk.out hVb hs hMh.out (by omega))
            have hj0 : (0 : Int) ≤ (j : Int) := by omega
            have hj1 : (j : Int) < (n : Int) := by omega
            have hj2 : (t : Int) ≤ (j : Int) := by omega
            clear hat hs hsk hLb hFb hG hR hB
            go_wp2_with fail
            refine cM.out.mono ?_
            rintro e w3 ⟨rfl, hG3, hK3⟩
            rw [hst.out.1, hst.out.2.2] at hG3
            have hG3h := Lib.hid hG3
            have hR3 := Lib.hid (hRh.out.but hK3 (by omega))
            have hB3 := Lib.hid (hBh.out.trans (hK3.below (B := w.heap.size) (fun i hi e => by omega) hBh.out.size))
            clear hG3 hK3 c0 c1 c2 c3 c4 c5 c6
            go_wp2_with fail
            go_roundg (j - t)
            case measure => omega
            case rel => exact ⟨j, _, by omega, by omega, rfl, by go_num, hG3h.out, hst.out.2.1, hR3.out, hB3.out⟩
          · obtain rfl : k = t := by omega
            have hF := Lib.hid (fun w' (hb : Below w.heap.size w w') => show Mrd w ps vars k (.returned (.tuple #[.agg (mkA (needL (ps.drop k) vars) m (byL (ps.drop k) vars)), .bool true])) w' from ⟨_, _, _, by rw [hK.out]; rfl, hb, fun _ => ⟨rfl, rfl, hMh.out⟩⟩)
            have cg := hG.cell
            have cr := hR.cell
            have fr := hR.frozen
            simp only [mkA] at cg
            have hk2 : ¬ ((k : Int) ≤ (k : Int) - 1) := by omega
            generalize needL (ps.drop k) vars = L at *
            generalize byL (ps.drop k) vars = f at *
            clear hG hR hB
            go_wp2_with fail
            refine bodyPost_ret (v := .tuple #[.agg (mkA L m f), .bool true]) (by simp [results, Try.results51, go_sem, cr, mkA]) rfl (hF.out _ ?_)
            refine Below.setCell ?_ (by simp) _
            refine Below.setCell ?_ (by simp) _
            refine Below.setCell ?_ (by simp) _
            exact hBh.out

theorem ok_at0 (ps : List St) (vars : Int) : (okS ps vars && inB 0 0 ps.length) = okS ps vars := by
  rw [show inB 0 0 (ps.length : Int) = true from inB_iff.2 ⟨by omega, by omega⟩, Bool.and_true]
set_option maxHeartbeats 4000000 in
theorem NeedsOf_any (A : Option Addr) (n c : Nat) (ps : List St) (vars : Int) (w : World) (h : Lst w w.heap.size A n ps) (hn : n ≤ c) (hc : c ≤ maxLen) :
    Calls Try.prog 28 #[.slice A n c, .int .i64 vars] w (Lbd w (needsTo ps vars) (okS ps vars)) := by
  have cM := Lib.hid (markedTo_any A n c ps vars 0 w h hn hc)
  have hl := h.1
  unfold Mrd at cM
  rw [ok_at0] at cM
  obtain ⟨i0, hi0, hz0, hz1', hz2'⟩ := info_parts info_int
  clear h hc
  cases hk : okS ps vars
  · have hK := Lib.hid hk
    have hR := Lib.hid (show needsTo ps vars = [] by unfold needsTo; rw [hk]; rfl)
    clear hk
    go_enter Try.func28, Try.ntmps28
    go_wp2_with fail
    refine cM.out.mono ?_
    rw [hK.out]
    rintro e w1 ⟨L, m, f, rfl, hb, _⟩
    have hB1 := Lib.hid (hb.alloc hb.size (.cells #[.int .i64 L, .int .i64 m, .int .i64 f] 60))
    unfold mkA
    clear hb
    go_wp2_with fail
    go_ret2
    exact ⟨_, rfl, by rw [hR.out]; exact IOwn.nil _ _, hB1.out⟩
  · have hK := Lib.hid hk
    have hR := Lib.hid (show needsTo ps vars = ndx 0 ps vars by unfold needsTo; rw [hk]; rfl)
    obtain ⟨hp, hV⟩ := okS_parts hk
    have h10 : n ≤ 10 := by have := (plain_iff.1 hp).1; omega
    have hlen := Lib.hid (show (ndx 0 ps vars).length ≤ 10 by rw [ndx_len]; have := sl_len ps vars; omega)
    clear hk
    go_enter Try.func28, Try.ntmps28
    go_wp2_with fail
    refine cM.out.mono ?_
    rw [hK.out]
    rintro e w1 ⟨L, m, f, rfl, hb, hM⟩
    have hMk := Lib.hid (hM rfl).2.2
    have hG0 := Lib.hid (Has.new w1 60 #[.int .i64 L, .int .i64 m, .int .i64 f])
    have hB1 := Lib.hid (hb.alloc hb.size (.cells #[.int .i64 L, .int .i64 m, .int .i64 f] 60))
    unfold mkA
    have hgw : w.heap.size ≤ w1.heap.size := hb.size
    clear hb hM
    go_wp2_with fail
    generalize w1.alloc (.cells #[.int .i64 L, .int .i64 m, .int .i64 f] 60) = W1 at hG0 hB1 ⊢
    generalize w1.heap.size = g at hG0 hgw ⊢
    go_loopg [8, 20] n (fun gn o v wr => ∃ (k : Nat) (ds : List Int), k ≤ n ∧ gn = n - k ∧ v = .int .i64 k ∧ IOwn wr w.heap.size o ds ∧ ds ++ ndx k (ps.drop k) vars = ndx 0 ps vars ∧ Has wr g 60 #[.int .i64 L, .int .i64 m, .int .i64 f] ∧ Below w.heap.size w wr ∧ ∀ b, o.ownBlock = some b → b ≠ g)
    case atStart => exact ⟨0, [], Nat.zero_le _, rfl, rfl, IOwn.nil _ _, rfl, hG0.out, hB1.out, fun b e => by cases e⟩
    case round =>
      obtain ⟨k, ds, hk, hgn, rfl, hO, hds, hG, hB, hne⟩ := hrel
      have hgk : gk = n - k := hgn
      obtain ⟨Ao, co, hvo, hco, hmo⟩ := hO.form
      subst hvo
      have hOh := Lib.hid hO
      have hGh := Lib.hid hG
      have hBh := Lib.hid hB
      have hDs := Lib.hid hds
      have hNe := Lib.hid hne
      have hdl : ds.length ≤ 10 := by
        have h1 := hlen.out
        rw [← hds, List.length_append] at h1
        omega
      clear hgn hO hB hds hne
      by_cases hlt : k < n
      · obtain ⟨s, hs⟩ : ∃ s, ps[k]? = some s := ⟨_, List.getElem?_eq_getElem (by omega)⟩
        have hst := Lib.hid (ndx_step hs k vars)
        have hna := Lib.hid (neAt_of hs vars)
        have cI := Lib.hid (fun wx => isMarked_any L m f k wx (by omega))
        unfold mkA at cI
        rw [hMk.out.tell k] at cI
        have cg := hG.cell
        have hk0 : (0 : Int) ≤ (k : Int) := by omega
        have hk1 : (k : Int) < (n : Int) := by omega
        clear hs hG
        go_wp2_with fail
        refine (cI.out _).mono ?_
        rintro e w3 ⟨rfl, hb3⟩
        have hz3 := hb3.size
        have hO3 := Lib.hid (hOh.out.below hb3)
        have hG3 := Lib.hid (hGh.out.kept hb3)
        have hB3 := Lib.hid (hBh.out.trans (hb3.mono hBh.out.size))
        clear hb3 cg
        cases hq : neAt ps vars k
        · have hX := Lib.hid (show ds ++ ndx (k + 1) (ps.drop (k + 1)) vars = ndx 0 ps vars by
            have h1 := hDs.out
            rw [hst.out, ← hna.out, hq, if_neg (by decide)] at h1
            exact h1)
          clear hq
          go_wp2_with fail
          go_roundg (n - (k + 1))
          case measure => omega
          case rel => exact ⟨k + 1, ds, by omega, rfl, by go_num, hO3.out, hX.out, hG3.out, hB3.out, hNe.out⟩
        · have hX := Lib.hid (show (ds ++ [(k : Int)]) ++ ndx (k + 1) (ps.drop (k + 1)) vars = ndx 0 ps vars by
            have h1 := hDs.out
            rw [hst.out, ← hna.out, hq, if_pos rfl] at h1
            rw [List.append_assoc]
            exact h1)
          have hO4 := Lib.hid (hO3.out.alloc (.cells #[.int .i64 k] 3))
          have hnw := Lib.hid (new_one w3 (.int .i64 k) 3)
          have hB4 := Lib.hid (hB3.out.alloc hB3.out.size (.cells #[.int .i64 k] 3))
          have hgl := hG3.out.lt
          clear hq hO3 hB3
          go_wp2_with (at_builtin; refine wpList_append_lies _ rfl (.tmp 26) (.tmp 28) 29 rfl w.heap.size 3 i0 _ 1 8 Try.underlying29 hi0 hz0 hz1' hz2' rfl (by decide) (.slice Ao ds.length co) ds.length (ints ds) rfl (by exact hO4.out) ⟨w3.heap.size, 0, none⟩ 1 1 [.int .i64 k] rfl rfl (by exact hnw.out) (by simp [Value.oneCell']) (by omega) (by unfold maxLen; omega) (by omega) (by exact hB4.out.size) (w3.heap.size + 1) (by simp) ?_; intro gr cr2 w4 hown4 hgrow4 hat4 hlt4)
          have hF := Lib.hid (IOwn.append_ (news := [(k : Int)]) hO4.out hown4 hgrow4 hB4.out (by exact hB4.out.size))
          have hK4 := grown_but hgrow4
          have hG5 := Lib.hid (hG3.out.but hK4 (fun e => hNe.out g e rfl))
          have hne5 := Lib.hid (show ∀ b, (Value.slice (some ⟨gr, 0, none⟩) (ds.length + 1) cr2).ownBlock = some b → b ≠ g from fun b e => by
            have e' : gr = b := by injection e
            subst e'
            rcases hat4 with h | h
            · exact hNe.out gr h
            · omega)
          clear hown4 hgrow4 hat4
          go_wp2_with fail
          go_roundg (n - (k + 1))
          case measure => omega
          case rel => exact ⟨k + 1, ds ++ [(k : Int)], by omega, rfl, by go_num, hF.out.1, hX.out, hG5.out, hF.out.2, hne5.out⟩
      · obtain rfl : k = n := by omega
        have hE := Lib.hid (show ds = ndx 0 ps vars by
          have h1 := hDs.out
          rw [List.drop_eq_nil_of_le (by omega)] at h1
          simpa [ndx] using h1)
        have hF := Lib.hid (show Lbd w (needsTo ps vars) true (.returned (.tuple #[.slice Ao ds.length co, .bool true])) wr from ⟨_, rfl, by rw [hR.out, ← hE.out]; exact hOh.out, hBh.out⟩)
        clear hOh hBh hG
        go_wp2_with fail
        go_ret2
        exact hF.out
end Go.Proofs.Ytkibkmheomlafaa
