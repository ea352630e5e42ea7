/- The first of the greatest weight; plain facts. The program's BestTrace. The model's BestTrace. -/
import Derived.Test.YtjokiminlplbcaaTrf
import Derived.Test.YtjokiminlplbcaaTrx
namespace Go.Proofs.Ytjokiminlplbcaa
set_option maxRecDepth 100000
set_option linter.unusedVariables false

theorem bestL_snoc : ∀ (ls : List Leaf) (l : Leaf) (b : List Int × Int), bestL (ls ++ [l]) b = if (bestL ls b).2 < l.2.2 then (l.1, l.2.2) else bestL ls b
  | [], l, b => rfl
  | x :: r, l, b => by
    rw [List.cons_append, bestL, bestL]
    exact bestL_snoc r l _
theorem bestL_ge : ∀ (ls : List Leaf) (b : List Int × Int), b.2 ≤ (bestL ls b).2
  | [], b => by simp [bestL]
  | x :: r, b => by
    rw [bestL]
    have := bestL_ge r (if b.2 < x.2.2 then (x.1, x.2.2) else b)
    split at this
    · rename_i h
      rw [if_pos h]
      have h2 : b.2 < x.2.2 := h
      exact Int.le_trans (Int.le_of_lt h2) this
    · rename_i h
      rw [if_neg h]
      exact this
theorem bestL_all : ∀ (ls : List Leaf) (b : List Int × Int), ∀ l ∈ ls, l.2.2 ≤ (bestL ls b).2
  | [], b, l, h => by simp at h
  | x :: r, b, l, h => by
    rw [bestL]
    rcases List.mem_cons.1 h with rfl | h
    · have := bestL_ge r (if b.2 < l.2.2 then (l.1, l.2.2) else b)
      split at this
      · rename_i hx
        rw [if_pos hx]
        exact this
      · rename_i hx
        rw [if_neg hx]
        omega
    · exact bestL_all r _ l h
theorem bestL_pos {ls : List Leaf} (h : ∀ l ∈ ls, 0 < l.2.2) (h0 : ls ≠ []) : 0 < (bestL ls ([], 0)).2 := by
  cases ls with
  | nil => exact absurd rfl h0
  | cons x r =>
    have h1 := bestL_all (x :: r) ([], 0) x List.mem_cons_self
    have h2 := h x List.mem_cons_self
    omega
theorem bestL_none : bestL [] ([], 0) = ([], 0) := rfl
/-- What is best is one of them, or what one began with. -/
theorem bestL_mem : ∀ (ls : List Leaf) (b : List Int × Int), bestL ls b = b ∨ ∃ l ∈ ls, bestL ls b = (l.1, l.2.2)
  | [], b => .inl rfl
  | x :: r, b => by
    rw [bestL]
    rcases bestL_mem r (if b.2 < x.2.2 then (x.1, x.2.2) else b) with h | ⟨l, hl, h⟩
    · by_cases hx : b.2 < x.2.2
      · right
        refine ⟨x, List.mem_cons_self, ?_⟩
        rw [h, if_pos hx]
      · left
        rw [h, if_neg hx]
    · exact .inr ⟨l, List.mem_cons_of_mem _ hl, h⟩
/-- How far one has come: the trace told, and what is left. -/
theorem bestL_append : ∀ (a c : List Leaf) (b : List Int × Int), bestL (a ++ c) b = bestL c (bestL a b)
  | [], c, b => rfl
  | x :: r, c, b => by
    rw [List.cons_append, bestL, bestL]
    exact bestL_append r c _
end Go.Proofs.Ytjokiminlplbcaa

namespace Go.Proofs.Ytjokiminlplbcaa
set_option maxRecDepth 100000
set_option linter.unusedVariables false
open Go.RowKit

/-- The first trace of the greatest weight; nothing and 0 if there is none. -/
def bst (o : Option (List Leaf)) : List Int × Int := bestL (o.getD []) ([], 0)
def Btd (w : World) (o : Option (List Leaf)) (e : Ending) (w' : World) : Prop :=
  ∃ v, e = .returned (.tuple #[v, .int .i64 (bst o).2, .bool (decide (0 < (bst o).2))]) ∧ IOwn w' w.heap.size v (bst o).1 ∧ Below w.heap.size w w'
theorem Btd.no {w w' : World} {o : Option (List Leaf)} (h : o.getD [] = []) (hb : Below w.heap.size w w') : Btd w o (.returned (.tuple #[.slice none 0 0, .int .i64 0, .bool false])) w' := by
  have e : bst o = ([], 0) := by unfold bst; rw [h]; rfl
  exact ⟨.slice none 0 0, by rw [e]; rfl, by rw [e]; exact IOwn.nil _ _, hb⟩

/-- The state of the loop that looks for the best trace. -/
def BsL (w0 wr : World) (os : List St) (g m c : Nat) (A : Option Addr) (vb most more : Value) (gn : Nat) : Prop :=
  ∃ (row : List Int) (stk : List Rn) (now : Rn) (vr vs : Value) (done : List Leaf), Trcr wr g m A c os row stk now vr vs ∧ Inv os row stk now ∧ IOwn wr (g + 1) vb (bestL done ([], 0)).1 ∧ most = .int .i64 (bestL done ([], 0)).2 ∧ (∀ k, vb.ownBlock = some k → vr.ownBlock ≠ some k) ∧ Below w0.heap.size w0 wr ∧ w0.heap.size ≤ g ∧
    ((more = .bool true ∧ 0 < now.wt ∧ traces os = done ++ (row, now.st, now.wt) :: filt (rest os row stk row.length) ∧ gn = (filt (rest os row stk row.length)).length + 1) ∨ (more = .bool false ∧ traces os = done))

theorem BsL.next {w0 wr w' : World} {os : List St} {g m c : Nat} {A : Option Addr} {vb : Value} {row : List Int} {stk : List Rn} {now : Rn} {vr vs : Value} {done : List Leaf} {ls : List Leaf} {b : Bool}
    (hT : Trcr wr g m A c os row stk now vr vs) (hR : IOwn wr (g + 1) vb (bestL done ([], 0)).1) (hne : ∀ k, vb.ownBlock = some k → vr.ownBlock ≠ some k) (hB : Below w0.heap.size w0 wr) (hg : w0.heap.size ≤ g)
    (htr : traces os = done ++ filt ls) (hW : Wtd os m g c A ls vr vs wr (.returned (.bool b)) w') : ∃ gn, BsL w0 w' os g m c A vb (.int .i64 (bestL done ([], 0)).2) (.bool b) gn ∧ gn ≤ (filt ls).length := by
  obtain ⟨row', stk', now', vr', vs', hT', hI', hD', hr⟩ := hW
  have hR' : IOwn w' (g + 1) vb (bestL done ([], 0)).1 := hR.but hD'.1 (fun k hk e => by
    rcases e with e | e | e
    · have := (World.ownsRow.lt hR k hk).1; omega
    · exact hne k hk e
    · obtain ⟨c1, h1⟩ := owns_has hR hk
      obtain ⟨c2, h2⟩ := owns_has hT.2.2.2 e
      exact has_ne h1 h2 tty_c rfl)
  have hne' : ∀ k, vb.ownBlock = some k → vr'.ownBlock ≠ some k := fun k hk e => by
    rcases hD'.2.1 k e with e' | e'
    · exact hne k hk e'
    · have := (World.ownsRow.lt hR k hk).2; omega
  have hB' : Below w0.heap.size w0 w' := hB.trans (hD'.1.below (B := w0.heap.size) (fun i hi e => by
    rcases e with e | e | e
    · omega
    · have := (hT.row_gt e).1; omega
    · have := (hT.stk_gt e).1; omega) hB.size)
  rcases hr with ⟨he, hw, hf⟩ | ⟨he, hf⟩
  · injection he with he
    injection he with he
    subst he
    refine ⟨(filt (rest os row' stk' row'.length)).length + 1, ⟨row', stk', now', vr', vs', done, hT', hI', hR', rfl, hne', hB', hg, .inl ⟨rfl, hw, ?_, rfl⟩⟩, ?_⟩
    · rw [htr, hf]
    · rw [hf]; exact Nat.le_refl _
  · injection he with he
    injection he with he
    subst he
    refine ⟨0, ⟨row', stk', now', vr', vs', done, hT', hI', hR', rfl, hne', hB', hg, .inr ⟨rfl, ?_⟩⟩, Nat.zero_le _⟩
    rw [htr, hf, List.append_nil]

set_option maxHeartbeats 2000000 in
theorem BestTrace_any (A : Option Addr) (n c : Nat) (ps : List St) (w : World) (h : Lst w w.heap.size A n ps) (hn : n ≤ c) (hc : c ≤ maxLen) :
    Calls Try.prog 18 #[.slice A n c] w (Btd w (tracesOf ps)) := by
  have hC := Lib.hid (tracerOf_any A n c ps w h hn hc)
  clear h hc
  go_enter Try.func18, Try.ntmps18
  go_wp2_with fail
  refine (hC.out).mono ?_
  rintro e w1 ⟨hb1, ⟨hno, rfl⟩ | ⟨os, A3, m, c3, hu, hyes, hM, hlen, hOK, hL, rfl⟩⟩
  · have hR := Lib.hid hno
    have hB := Lib.hid hb1
    clear hno hb1
    go_wp2
    go_ret3
    exact Btd.no (by rw [hR.out]; rfl) (hB.out.alloc hB.out.size _)
  · have hY := Lib.hid hyes
    have hMm := Lib.hid hM
    have hOk := Lib.hid hOK
    have hT0 : Trcr (w1.alloc (.cells #[.slice A3 m c3, .slice none 0 0, .slice none 0 0, .int .i64 0, .int .i64 0, .int .i64 1] 68)) w1.heap.size m A3 c3 os [] [] ⟨0, 0, 1⟩ (.slice none 0 0) (.slice none 0 0) :=
      ⟨Has.new w1 _ _, hL.below ((Below.refl _ _).alloc (Nat.le_refl _) _), IOwn.nil _ _, World.ownsRow_nil _ _ _ _⟩
    have hB0 : Below w.heap.size w (w1.alloc (.cells #[.slice A3 m c3, .slice none 0 0, .slice none 0 0, .int .i64 0, .int .i64 0, .int .i64 1] 68)) := hb1.alloc hb1.size _
    have hg := hb1.size
    have hI0 := Lib.hid (Inv.start os)
    have cW := Lib.hid (toWeight_any os m hM hlen hOK _ c3 A3 [] [] ⟨0, 0, 1⟩ _ _ _ hT0 hI0.out)
    have hT := Lib.hid hT0
    have hB := Lib.hid hB0
    have hpos := Lib.hid (fun l (hl : l ∈ traces os) => (traces_fit (fun s hs => List.all_eq_true.1 hOK s hs) hl).2.1)
    clear hu hyes hM hOK hL hT0 hB0 hb1
    go_wp2_with fail
    generalize w1.alloc (.cells #[.slice A3 m c3, .slice none 0 0, .slice none 0 0, .int .i64 0, .int .i64 0, .int .i64 1] 68) = W at cW hT hB ⊢
    generalize w1.heap.size = g at hg cW hT ⊢
    refine (cW.out).mono ?_
    rintro e w2 hW
    obtain ⟨b, rfl⟩ : ∃ b, e = .returned (.bool b) := by
      obtain ⟨_, _, _, _, _, _, _, _, ⟨he, _⟩ | ⟨he, _⟩⟩ := hW
      · exact ⟨true, he⟩
      · exact ⟨false, he⟩
    have hL0 := Lib.hid (BsL.next (w0 := w) (done := []) (vb := .slice none 0 0) hT.out (IOwn.nil W (g + 1)) (fun k hk => by cases hk) hB.out hg (show traces os = [] ++ _ from by
      unfold todo traces
      simp [rest, lpre_nil]) hW)
    clear hW
    go_wp2_with fail
    obtain ⟨g0, hTL0, _⟩ := hL0.out
    have hTL := Lib.hid hTL0
    clear hTL0 hL0 hT hB hI0 cW
    go_loopg [7, 8, 9] g0 (fun gn vb most more wr => BsL w wr os g m c3 A3 vb most more gn)
    case atStart => exact hTL.out
    case round =>
      obtain ⟨row, stk, now, vr, vs, done, hT, hI, hR, rfl, hne, hB, hg2, hor⟩ := hrel
      obtain ⟨Ar, cr, hvr, hrc, hrm⟩ := IOwn.form hT.2.2.1
      subst hvr
      rcases hor with ⟨rfl, hwp, htr, hgn⟩ | ⟨rfl, htr⟩
      · have hrl : row.length ≤ 12 := by have := hI.len_le; have := hMm.out; omega
        have hcg := hT.1.cell
        have cC := Lib.hid (fun wx hx => copied_any Ar row.length cr row wx hx (by omega))
        have hT' := Lib.hid hT
        have hI' := Lib.hid hI
        have hR' := Lib.hid hR
        have hne' := Lib.hid hne
        have hB' := Lib.hid hB
        have htr' := Lib.hid htr
        have hgn' := Lib.hid hgn
        have hsn := Lib.hid (bestL_snoc done (row, now.st, now.wt) ([], 0))
        have hgw := hT.1.lt
        have hBs := hB.size
        clear hI hR hne hB htr hgn
        by_cases hlt : (bestL done ([], 0)).2 < now.wt
        · have hbe := Lib.hid (show bestL (done ++ [(row, now.st, now.wt)]) ([], 0) = (row, now.wt) by rw [hsn.out]; exact if_pos hlt)
          go_wp2_with fail
          go_region_law (first | (go_simp; go_at_call 60; refine (cC.out _ (by exact (IOwn.lst (show IOwn wr _ _ _ from hT'.out.2.2.1)))).mono ?_; rintro e w3 ⟨rfl, ho3, hb3⟩; have hcg3 := (Has.kept (by exact hT'.out.1) hb3).cell))
          all_goals
            have hb3' : Below wr.heap.size wr w3 := ((Below.refl _ _).drew).trans hb3
            have hT3 := hT'.out.below hb3'
            have hBB3 := Lib.hid (hB'.out.trans (hb3'.mono hBs))
            have ho3' := Lib.hid (show IOwn w3 (g + 1) (.slice (some ⟨wr.heap.size, 0, none⟩) row.length row.length) row from owns_le ho3 hgw)
            have hne3 := Lib.hid (show ∀ k, (Value.slice (some ⟨wr.heap.size, 0, none⟩) row.length row.length).ownBlock = some k → (Value.slice Ar row.length cr).ownBlock ≠ some k from fun k hk e => by
              have h1 := (hT'.out.row_gt e).2
              have h2 : wr.heap.size = k := by simpa [Value.ownBlock] using hk
              omega)
            have cN := Lib.hid (toNext_any os m hMm.out hlen hOk.out g c3 A3 row stk now _ _ w3 hT3 hI'.out)
            have hT3' := Lib.hid hT3
            clear hT3 hb3 hb3' ho3 hcg3 hcg
            go_wp2_with fail
            refine (cN.out).mono ?_
            rintro e w5 hW
            obtain ⟨b5, rfl⟩ : ∃ b, e = .returned (.bool b) := by
              obtain ⟨_, _, _, _, _, _, _, _, ⟨he, _⟩ | ⟨he, _⟩⟩ := hW
              · exact ⟨true, he⟩
              · exact ⟨false, he⟩
            have hL5 := Lib.hid (BsL.next (w0 := w) (done := done ++ [(row, now.st, now.wt)]) hT3'.out (by rw [hbe.out]; exact ho3'.out) hne3.out hBB3.out hg (by rw [htr'.out, List.append_assoc]; rfl) hW)
            clear hW
            go_wp2_with fail
            obtain ⟨g5, hTL5, hle5⟩ := hL5.out
            have hlt5 : g5 < gk := by have := hgn'.out; omega
            go_roundg g5
            case measure => exact hlt5
            case rel =>
              rw [hbe.out] at hTL5
              exact hTL5
        · have hbe := Lib.hid (show bestL (done ++ [(row, now.st, now.wt)]) ([], 0) = bestL done ([], 0) by rw [hsn.out]; exact if_neg hlt)
          have cN := Lib.hid (toNext_any os m hMm.out hlen hOk.out g c3 A3 row stk now _ _ wr hT hI'.out)
          clear hT
          go_wp2_with fail
          refine (cN.out).mono ?_
          rintro e w5 hW
          obtain ⟨b5, rfl⟩ : ∃ b, e = .returned (.bool b) := by
            obtain ⟨_, _, _, _, _, _, _, _, ⟨he, _⟩ | ⟨he, _⟩⟩ := hW
            · exact ⟨true, he⟩
            · exact ⟨false, he⟩
          have hL5 := Lib.hid (BsL.next (w0 := w) (done := done ++ [(row, now.st, now.wt)]) hT'.out (by rw [hbe.out]; exact hR'.out) hne'.out hB'.out hg (by rw [htr'.out, List.append_assoc]; rfl) hW)
          clear hW
          go_wp2_with fail
          obtain ⟨g5, hTL5, hle5⟩ := hL5.out
          have hlt5 : g5 < gk := by have := hgn'.out; omega
          go_roundg g5
          case measure => exact hlt5
          case rel =>
            rw [hbe.out] at hTL5
            exact hTL5
      · obtain ⟨Ab, cb, hvb, _, _⟩ := IOwn.form hR
        subst hvb
        have hF : Btd w (tracesOf ps) (.returned (.tuple #[.slice Ab (bestL done ([], 0)).1.length cb, .int .i64 (bestL done ([], 0)).2, .bool (decide (0 < (bestL done ([], 0)).2))])) wr := by
          have e : bst (tracesOf ps) = bestL done ([], 0) := by
            unfold bst
            rw [hY.out]
            show bestL (traces os) _ = _
            rw [htr]
          exact ⟨_, by rw [e], by rw [e]; exact owns_le hR (show w.heap.size ≤ g + 1 by omega), hB⟩
        have hF' := Lib.hid hF
        clear hR hB htr hne hT hI hF
        go_wp2_with fail
        go_ret3
        exact hF'.out
end Go.Proofs.Ytjokiminlplbcaa

namespace Go.Proofs.Ytjokiminlplbcaa
set_option maxRecDepth 100000
set_option linter.unusedVariables false
open Go.RowKit

theorem bestL_take {ls : List Leaf} {k : Nat} {l : Leaf} (h : ls[k]? = some l) (b : List Int × Int) : bestL (ls.take (k + 1)) b = if (bestL (ls.take k) b).2 < l.2.2 then (l.1, l.2.2) else bestL (ls.take k) b := by
  have hl := (List.getElem?_eq_some_iff.1 h).1
  rw [List.take_succ_eq_append_getElem hl, (List.getElem?_eq_some_iff.1 h).2]
  exact bestL_snoc _ _ _

set_option maxHeartbeats 2000000 in
theorem specBestTrace_any (A : Option Addr) (n c : Nat) (ps : List St) (w : World) (h : Lst w w.heap.size A n ps) (hn : n ≤ c) (hc : c ≤ maxLen) (hbig : n ≤ 1048576) :
    Calls Try.prog 19 #[.slice A n c] w (Btd w (tracesOf ps)) := by
  have hC := Lib.hid (specTracesOf_any A n c ps w h hn hc hbig)
  have cR := Lib.hid (fun A2 n2 c2 ds wx hx h2 hn2 => specRunTrace_any A A2 n c n2 c2 ps ds wx hx hn hc hbig h2 hn2)
  have hH := Lib.hid h
  clear h hc
  cases ht : tracesOf ps with
  | none =>
    have hT := Lib.hid ht
    clear ht
    go_enter Try.func19, Try.ntmps19
    go_wp2_with fail
    refine (hC.out).mono ?_
    rw [hT.out]
    rintro e w1 ⟨v, vs, rfl, hR, hb⟩
    obtain ⟨A2, c2, hv, _, _⟩ := hR.form
    subst hv
    clear hR
    go_wp2_with fail
    go_ret3
    exact Btd.no rfl hb
  | some ls =>
    have hT := Lib.hid ht
    obtain ⟨os, hu, hls, hlen, hOK⟩ : ∃ os, unrolled ps = some os ∧ ls = traces os ∧ os.length ≤ 12 ∧ os.all St.ok = true := by
      unfold tracesOf at ht
      obtain ⟨os, hu, hs⟩ := Option.bind_eq_some_iff.1 ht
      obtain ⟨_, hlen, _, _, hOK⟩ := unrolled_parts hu
      split at hs
      · exact ⟨os, hu, (Option.some.inj hs).symm, hlen, hOK⟩
      · cases hs
    have hrun := Lib.hid (show ∀ l ∈ ls, runTrace ps l.1 = some l.2 ∧ 0 < l.2.2 from fun l hl => by
      rw [hls] at hl
      refine ⟨?_, (traces_fit (fun s hs => List.all_eq_true.1 hOK s hs) hl).2.1⟩
      unfold runTrace
      rw [hu]
      exact (traces_iff.1 hl).1)
    have hll : ls.length ≤ 531441 := by rw [hls]; exact traces_len hlen
    have hrow := Lib.hid (show rowsT (some ls) = ls.map (·.1) from rfl)
    clear ht hu hls hOK
    go_enter Try.func19, Try.ntmps19
    go_wp2_with fail
    refine (hC.out).mono ?_
    rw [hT.out]
    rintro e w1 ⟨v, vs, rfl, hR, hb⟩
    rw [hrow.out] at hR
    obtain ⟨A2, c2, hv, hlc, hlm⟩ := hR.form
    subst hv
    rw [List.length_map] at hlc hR ⊢
    have hRh := Lib.hid hR
    have hz := hb.size
    clear hR
    by_cases h0 : ls.length = 0
    · have hE := Lib.hid (show (some ls).getD [] = [] from List.length_eq_zero_iff.1 h0)
      rw [h0]
      clear h0
      go_wp2_with fail
      go_ret3
      exact Btd.no hE.out hb
    · have hn0 : ((ls.length : Int) == 0) = false := by simp; exact fun e => h0 (by rw [e]; rfl)
      generalize hm : ls.length = m at h0 hn0 hll hlc hRh ⊢
      have hM := Lib.hid hm
      clear hm
      go_wp2_with fail
      go_loopw [7, 8, 9] (fun b q i wr => ∃ k bb : Nat, k ≤ m ∧ i = .int .i64 k ∧ b = .int .i64 bb ∧ q = .int .i64 (bestL (ls.take k) ([], 0)).2 ∧ (0 < k → bb < k ∧ ∃ l, ls[bb]? = some l ∧ l.1 = (bestL (ls.take k) ([], 0)).1) ∧ Below w1.heap.size w1 wr) (fun _ _ i _ => m - (intOf i).toNat)
      case atStart => exact ⟨0, 0, Nat.zero_le _, rfl, rfl, rfl, fun h => absurd h (by omega), Below.refl _ _⟩
      case round =>
        obtain ⟨k, bb, hk, rfl, rfl, rfl, hbb, hbr⟩ := hrel
        have hBb := Lib.hid hbb
        have hBr := Lib.hid hbr
        have hz2 := hbr.size
        clear hbb
        have hRr := Lib.hid (hRh.out.but (KeptBut.of_below hbr (fun _ => False)) (fun _ _ h => h) (fun _ _ _ _ _ h => h))
        by_cases hlt : k < m
        · obtain ⟨g, Ax, cx, ds, hA, hvx, c0, hds, hxo⟩ := hRr.out.at_ (by rw [List.length_map, hM.out]) hlt
          subst hA
          rw [List.getElem?_map] at hds
          obtain ⟨l, hl, rfl⟩ := Option.map_eq_some_iff.1 hds
          obtain ⟨hr1, hr2⟩ := hrun.out l (List.mem_of_getElem? hl)
          have hst := Lib.hid (bestL_take hl ([], 0))
          have hLk := Lib.hid hl
          have hr1' := Lib.hid hr1
          have hxm : l.1.length ≤ maxLen := by
            obtain ⟨_, _, e, h1, h2⟩ := IOwn.form hxo
            omega
          have cRx := Lib.hid (cR.out Ax l.1.length cx l.1 wr ((hH.out.below (hb.trans (hbr.mono hz))).more (by omega)) hxo.lst hxm)
          clear hds hl hr1 hxo hvx hbr
          go_wp2_with fail
          refine (cRx.out).mono ?_
          rw [hr1'.out]
          rintro e w3 ⟨rfl, hb3⟩
          have hB3 := Lib.hid (hBr.out.trans (hb3.mono hz2))
          clear hb3
          by_cases hbt : (bestL (ls.take k) ([], 0)).2 < l.2.2
          · have hs2 := Lib.hid (show bestL (ls.take (k + 1)) ([], 0) = (l.1, l.2.2) by rw [hst.out]; exact if_pos hbt)
            go_wp2_with fail
            go_roundw
            case rel => exact ⟨k + 1, k, by omega, by go_num, rfl, by rw [hs2.out], fun _ => ⟨by omega, l, hLk.out, by rw [hs2.out]⟩, hB3.out⟩
            case measure => (simp [intOf]; try omega)
          · have hs2 := Lib.hid (show bestL (ls.take (k + 1)) ([], 0) = bestL (ls.take k) ([], 0) by rw [hst.out]; exact if_neg hbt)
            have hk0 : 0 < k := by
              by_cases hk0 : k = 0
              · subst hk0
                exact absurd hr2 hbt
              · omega
            go_wp2_with fail
            go_roundw
            case rel => exact ⟨k + 1, bb, by omega, by go_num, rfl, by rw [hs2.out], fun _ => ⟨by have := (hBb.out hk0).1; omega, by rw [hs2.out]; exact (hBb.out hk0).2⟩, hB3.out⟩
            case measure => (simp [intOf]; try omega)
        · obtain rfl : m = k := by omega
          obtain ⟨hbm, l, hl, hle⟩ := hBb.out (by omega)
          obtain ⟨g, Ax, cx, ds, hA, hvx, c0, hds, hxo⟩ := hRr.out.at_ (by rw [List.length_map, hM.out]) hbm
          subst hA
          have hk0 : (0 : Int) ≤ (bb : Int) := by omega
          have hk1 : (bb : Int) < (m : Int) := by omega
          have hF : Btd w (some ls) (.returned (.tuple #[.slice Ax ds.length cx, .int .i64 (bestL (ls.take m) ([], 0)).2, .bool true])) wr := by
            rw [List.getElem?_map, hl] at hds
            have hds' : l.1 = ds := by simpa using hds
            have e1 : bst (some ls) = bestL (ls.take m) ([], 0) := by
              rw [List.take_of_length_le (by rw [hM.out]; exact Nat.le_refl _)]; rfl
            have hp : 0 < (bst (some ls)).2 := by
              refine bestL_pos (fun l hl => (hrun.out l hl).2) ?_
              intro e
              have := hM.out
              rw [show ls = [] from e] at this
              simp at this
              omega
            refine ⟨_, by rw [decide_eq_true hp, e1], ?_, hb.trans (hBr.out.mono hz)⟩
            rw [e1, ← hle, hds']
            exact hxo
          have hF' := Lib.hid hF
          clear hF hxo hds hvx hl hle hRr hbr
          go_wp2_with fail
          go_ret3
          exact hF'.out
end Go.Proofs.Ytjokiminlplbcaa
