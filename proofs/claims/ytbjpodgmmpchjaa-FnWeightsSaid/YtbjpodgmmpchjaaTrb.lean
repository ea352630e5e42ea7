/- The program's tracerOf. The program's TracesOf. The first of the greatest weight; plain facts. The program's BestTrace. The model's BestTrace. -/
import Derived.Test.YtbjpodgmmpchjaaTrn
import Derived.Test.YtbjpodgmmpchjaaFm
import Derived.Test.YtbjpodgmmpchjaaNm
import Derived.Deep.AppendLies
import Derived.Test.YtbjpodgmmpchjaaTrv
namespace Go.Proofs.Ytbjpodgmmpchjaa
set_option maxRecDepth 100000
set_option linter.unusedVariables false
open Go.RowKit

/-- How making a tracer ends. -/
def Trad (w : World) (ps : List St) (e : Ending) (w' : World) : Prop :=
  Below w.heap.size w w' ∧
  ((tracesOf ps = none ∧ e = .returned (.tuple #[.agg #[.slice none 0 0, .slice none 0 0, .slice none 0 0, .int .i64 0, .int .i64 0, .int .i64 0], .bool false])) ∨
   (∃ os A m c, unrolled ps = some os ∧ tracesOf ps = some (traces os) ∧ os.length = m ∧ m ≤ 12 ∧ os.all St.ok = true ∧ Lst w' w'.heap.size A m os ∧
     e = .returned (.tuple #[.agg #[.slice A m c, .slice none 0 0, .slice none 0 0, .int .i64 0, .int .i64 0, .int .i64 1], .bool true])))

set_option maxHeartbeats 1000000 in
theorem tracerOf_any (A : Option Addr) (n c : Nat) (ps : List St) (w : World) (h : Lst w w.heap.size A n ps) (hn : n ≤ c) (hc : c ≤ maxLen) :
    Calls Try.prog 68 #[.slice A n c] w (Trad w ps) := by
  have hC := Lib.hid (fun wx (hx : Lst wx wx.heap.size A n ps) => Unrolled_any A n c ps wx hx hn hc)
  have hD := Lib.hid (fun wx (hx : Lst wx wx.heap.size A n ps) => CountDraws_any A n c ps wx hx hn hc)
  have hH := Lib.hid h
  clear h hc
  have hG := Lib.hid (Has.new w 84 #[.slice none 0 0, .slice none 0 0, .slice none 0 0, .int .i64 0, .int .i64 0, .int .i64 0])
  have hb0 : Below w.heap.size w (w.alloc (.cells #[.slice none 0 0, .slice none 0 0, .slice none 0 0, .int .i64 0, .int .i64 0, .int .i64 0] 84)) := (Below.refl _ _).alloc (Nat.le_refl _) _
  cases hu : unrolled ps with
  | none =>
    have hU := Lib.hid hu
    have hR := Lib.hid (tracesOf_none hu)
    clear hu
    go_enter Try.func68, Try.ntmps68
    go_wp2_with fail
    refine (hC.out _ ((hH.out.below hb0).more hb0.size)).mono ?_
    rw [hU.out]
    rintro e w1 ⟨v, rfl, hown, hb⟩
    have hB := Lib.hid (hb0.trans (hb.mono hb0.size))
    have hG1 := (hG.out.kept hb)
    have hcg := hG1.cell
    have hfg := hG1.frozen
    have hG1' := Lib.hid hG1
    clear hown hb hb0 hG hG1
    go_wp2
    have hG2 := ((((((hG1'.out.put 0 (.slice none 0 0)).put 1 (.slice none 0 0)).put 2 (.slice none 0 0)).put 3 (.int .i64 0)).put 4 (.int .i64 0)).put 5 (.int .i64 0))
    have hB2 : Below w.heap.size w (((((((w1).setCell ⟨w.heap.size, 0, none⟩ (.slice none 0 0)).setCell ⟨w.heap.size, 1, none⟩ (.slice none 0 0)).setCell ⟨w.heap.size, 2, none⟩ (.slice none 0 0)).setCell ⟨w.heap.size, 3, none⟩ (.int .i64 0)).setCell ⟨w.heap.size, 4, none⟩ (.int .i64 0)).setCell ⟨w.heap.size, 5, none⟩ (.int .i64 0)) := by
      iterate 6 (refine Below.setCell ?_ (by simp) _)
      exact hB.out
    generalize ((((((w1).setCell ⟨w.heap.size, 0, none⟩ (.slice none 0 0)).setCell ⟨w.heap.size, 1, none⟩ (.slice none 0 0)).setCell ⟨w.heap.size, 2, none⟩ (.slice none 0 0)).setCell ⟨w.heap.size, 3, none⟩ (.int .i64 0)).setCell ⟨w.heap.size, 4, none⟩ (.int .i64 0)).setCell ⟨w.heap.size, 5, none⟩ (.int .i64 0) = W2 at hG2 hB2 ⊢
    have c2 := hG2.cell
    have f2 := hG2.frozen
    simp at c2
    refine bodyPost_ret (v := .tuple #[.agg #[.slice none 0 0, .slice none 0 0, .slice none 0 0, .int .i64 0, .int .i64 0, .int .i64 0], .bool false]) (by simp [results, Try.results68, go_sem, c2]) rfl ?_
    exact ⟨hB2, .inl ⟨hR.out, rfl⟩⟩
  | some os =>
    have hU := Lib.hid hu
    obtain ⟨_, hlen, _, hNL, hOK⟩ := unrolled_parts hu
    have hN := Lib.hid (show countDraws ps = ((os.filter St.draws).length : Nat) by unfold countDraws; rw [hu])
    have hOk := Lib.hid hOK
    have hfl : (os.filter St.draws).length ≤ os.length := List.length_filter_le _ _
    by_cases hd : (os.filter St.draws).length ≤ 6
    · have hR := Lib.hid (tracesOf_some hu hd)
      have hUu := Lib.hid hu
      clear hu hNL hOK
      go_enter Try.func68, Try.ntmps68
      go_wp2_with fail
      refine (hC.out _ ((hH.out.below hb0).more hb0.size)).mono ?_
      rw [hU.out]
      rintro e w1 ⟨v, rfl, hown, hb⟩
      replace hown : Own w1 _ v os := hown
      obtain ⟨A3, c3, rfl, hlc, hcm⟩ := hown.form
      have hO := Lib.hid hown
      have hB := Lib.hid (hb0.trans (hb.mono hb0.size))
      have hG1 := Lib.hid (hG.out.kept hb)
      have hL1 := Lib.hid ((hH.out.below hB.out).more hB.out.size)
      clear hown hb hb0 hG
      generalize hm : os.length = m at hlen hlc hfl ⊢
      have hM := Lib.hid hm
      replace hO := Lib.hid (show Own w1 _ (.slice A3 m c3) os from by rw [← hm]; exact hO.out)
      clear hm
      go_wp2_with fail
      refine (hD.out _ hL1.out).mono ?_
      rw [hN.out]
      rintro e w2 ⟨rfl, hb2⟩
      have hB2' := Lib.hid (hB.out.trans (hb2.mono hB.out.size))
      have hG2 := Lib.hid (hG1.out.kept hb2)
      have hO2 := Lib.hid (Own.below hO.out hb2)
      clear hb2 hO hG1 hL1 hB
      go_wp2_with fail
      refine (startRun_any _).mono ?_
      rintro e w3 ⟨rfl, hb3⟩
      have hB := Lib.hid (hB2'.out.trans (hb3.mono hB2'.out.size))
      have hG1 := (hG2.out.kept hb3)
      have hO3 := Lib.hid (Own.below hO2.out hb3)
      have hcg := hG1.cell
      have hfg := hG1.frozen
      have hG1' := Lib.hid hG1
      clear hb3 hO2 hG2 hG1 hB2'
      go_wp2
      have hG2 := ((((((hG1'.out.put 0 (.slice A3 m c3)).put 1 (.slice none 0 0)).put 2 (.slice none 0 0)).put 3 (.int .i64 0)).put 4 (.int .i64 0)).put 5 (.int .i64 1))
      have hB2 : Below w.heap.size w (((((((w3).setCell ⟨w.heap.size, 0, none⟩ (.slice A3 m c3)).setCell ⟨w.heap.size, 1, none⟩ (.slice none 0 0)).setCell ⟨w.heap.size, 2, none⟩ (.slice none 0 0)).setCell ⟨w.heap.size, 3, none⟩ (.int .i64 0)).setCell ⟨w.heap.size, 4, none⟩ (.int .i64 0)).setCell ⟨w.heap.size, 5, none⟩ (.int .i64 1)) := by
        iterate 6 (refine Below.setCell ?_ (by simp) _)
        exact hB.out
      have hO4 : Own (((((((w3).setCell ⟨w.heap.size, 0, none⟩ (.slice A3 m c3)).setCell ⟨w.heap.size, 1, none⟩ (.slice none 0 0)).setCell ⟨w.heap.size, 2, none⟩ (.slice none 0 0)).setCell ⟨w.heap.size, 3, none⟩ (.int .i64 0)).setCell ⟨w.heap.size, 4, none⟩ (.int .i64 0)).setCell ⟨w.heap.size, 5, none⟩ (.int .i64 1)) _ (.slice A3 m c3) os := owns_but hO3.out (((((((KeptBut.refl w3 (fun i => i = w.heap.size)).put (p := ⟨w.heap.size, 0, none⟩) (fun _ => rfl) (.slice A3 m c3)).put (p := ⟨w.heap.size, 1, none⟩) (fun _ => rfl) (.slice none 0 0)).put (p := ⟨w.heap.size, 2, none⟩) (fun _ => rfl) (.slice none 0 0)).put (p := ⟨w.heap.size, 3, none⟩) (fun _ => rfl) (.int .i64 0)).put (p := ⟨w.heap.size, 4, none⟩) (fun _ => rfl) (.int .i64 0)).put (p := ⟨w.heap.size, 5, none⟩) (fun _ => rfl) (.int .i64 1)) (fun k hk e => by
        obtain ⟨c1, h1⟩ := owns_has hO3.out hk
        exact has_ne h1 hG1'.out (by decide) e)
      generalize ((((((w3).setCell ⟨w.heap.size, 0, none⟩ (.slice A3 m c3)).setCell ⟨w.heap.size, 1, none⟩ (.slice none 0 0)).setCell ⟨w.heap.size, 2, none⟩ (.slice none 0 0)).setCell ⟨w.heap.size, 3, none⟩ (.int .i64 0)).setCell ⟨w.heap.size, 4, none⟩ (.int .i64 0)).setCell ⟨w.heap.size, 5, none⟩ (.int .i64 1) = W2 at hG2 hB2 hO4 ⊢
      have c2 := hG2.cell
      have f2 := hG2.frozen
      simp at c2
      refine bodyPost_ret (v := .tuple #[.agg #[.slice A3 m c3, .slice none 0 0, .slice none 0 0, .int .i64 0, .int .i64 0, .int .i64 1], .bool true]) (by simp [results, Try.results68, go_sem, c2]) rfl ?_
      exact ⟨hB2, .inr ⟨os, A3, m, c3, hUu.out, hR.out, hM.out, hlen, hOk.out, hO4.lst, rfl⟩⟩
    · have hR := Lib.hid (tracesOf_many hu (by omega))
      have hd' : 6 < (os.filter St.draws).length := by omega
      clear hu hNL hOK hd
      go_enter Try.func68, Try.ntmps68
      go_wp2_with fail
      refine (hC.out _ ((hH.out.below hb0).more hb0.size)).mono ?_
      rw [hU.out]
      rintro e w1 ⟨v, rfl, hown, hb⟩
      have hB := Lib.hid (hb0.trans (hb.mono hb0.size))
      have hG1 := Lib.hid (hG.out.kept hb)
      have hL1 := Lib.hid ((hH.out.below hB.out).more hB.out.size)
      clear hown hb hb0 hG
      go_wp2_with fail
      refine (hD.out _ hL1.out).mono ?_
      rw [hN.out]
      rintro e w2 ⟨rfl, hb2⟩
      have hB2' := Lib.hid (hB.out.trans (hb2.mono hB.out.size))
      have hG2 := (hG1.out.kept hb2)
      have hcg := hG2.cell
      have hfg := hG2.frozen
      have hG1' := Lib.hid hG2
      clear hb2 hG1 hL1 hB hG2
      have hB := hB2'
      clear hB2'
      go_wp2
      have hG2 := ((((((hG1'.out.put 0 (.slice none 0 0)).put 1 (.slice none 0 0)).put 2 (.slice none 0 0)).put 3 (.int .i64 0)).put 4 (.int .i64 0)).put 5 (.int .i64 0))
      have hB2 : Below w.heap.size w (((((((w2).setCell ⟨w.heap.size, 0, none⟩ (.slice none 0 0)).setCell ⟨w.heap.size, 1, none⟩ (.slice none 0 0)).setCell ⟨w.heap.size, 2, none⟩ (.slice none 0 0)).setCell ⟨w.heap.size, 3, none⟩ (.int .i64 0)).setCell ⟨w.heap.size, 4, none⟩ (.int .i64 0)).setCell ⟨w.heap.size, 5, none⟩ (.int .i64 0)) := by
        iterate 6 (refine Below.setCell ?_ (by simp) _)
        exact hB.out
      generalize ((((((w2).setCell ⟨w.heap.size, 0, none⟩ (.slice none 0 0)).setCell ⟨w.heap.size, 1, none⟩ (.slice none 0 0)).setCell ⟨w.heap.size, 2, none⟩ (.slice none 0 0)).setCell ⟨w.heap.size, 3, none⟩ (.int .i64 0)).setCell ⟨w.heap.size, 4, none⟩ (.int .i64 0)).setCell ⟨w.heap.size, 5, none⟩ (.int .i64 0) = W2 at hG2 hB2 ⊢
      have c2 := hG2.cell
      have f2 := hG2.frozen
      simp at c2
      refine bodyPost_ret (v := .tuple #[.agg #[.slice none 0 0, .slice none 0 0, .slice none 0 0, .int .i64 0, .int .i64 0, .int .i64 0], .bool false]) (by simp [results, Try.results68, go_sem, c2]) rfl ?_
      exact ⟨hB2, .inl ⟨hR.out, rfl⟩⟩
end Go.Proofs.Ytbjpodgmmpchjaa

namespace Go.Proofs.Ytbjpodgmmpchjaa
set_option maxRecDepth 100000
set_option linter.unusedVariables false
open Go.RowKit

/-- How telling all traces ends; each row lies in a block of its own. -/
def TrOa (w : World) (o : Option (List Leaf)) (e : Ending) (w' : World) : Prop :=
  ∃ v vs, e = .returned (.tuple #[v, .bool o.isSome]) ∧ RowsV w' w.heap.size v (rowsT o) vs ∧ Apart vs ∧ Below w.heap.size w w'

/-- The tracer as it lies stays, where other blocks turn. -/
theorem Trcr.keep {w w' : World} {g m c : Nat} {A : Option Addr} {os : List St} {row : List Int} {stk : List Rn} {now : Rn} {vr vs : Value} {S : Nat → Prop} (h : Trcr w g m A c os row stk now vr vs) (hk : KeptBut w w' S) (h1 : ∀ k, S k → g < k) (h2 : ∀ k, vr.ownBlock = some k → ¬ S k) (h3 : ∀ k, vs.ownBlock = some k → ¬ S k) : Trcr w' g m A c os row stk now vr vs := by
  obtain ⟨a, b⟩ := h.but hk (fun i hi e => by have := h1 i e; omega)
  exact ⟨a, b, h.2.2.1.but hk h2, owns_but h.2.2.2 hk h3⟩

theorem ttr_a : (24 : TypeId) ≠ 84 := by decide
theorem ttr_b : (24 : TypeId) ≠ 73 := by decide

/-- What the tracer's steps leave of rows that were told. -/
theorem RowsV.traced {w w' : World} {g m c base : Nat} {A : Option Addr} {os : List St} {row : List Int} {stk : List Rn} {now : Rn} {vr vs vr' vs' v : Value} {rs : List (List Int)} {vl : List Value} (h : RowsV w base v rs vl) (hT : Trcr w g m A c os row stk now vr vs) (hD : Trd w w' g vr vs vr' vs') (hne : ∀ x ∈ vl, ∀ k, x.ownBlock = some k → vr.ownBlock ≠ some k) :
    RowsV w' base v rs vl ∧ (∀ x ∈ vl, ∀ k, x.ownBlock = some k → vr'.ownBlock ≠ some k) := by
  refine ⟨h.but hD.1 (fun k hk e => ?_) (fun k cur hc _ ⟨x, hx, hxk⟩ e => ?_), fun x hx k hk e => ?_⟩
  · obtain ⟨c1, h1⟩ := owns_has h.1 hk
    rcases e with e | e | e
    · subst e
      exact has_ne h1 hT.1 ttr_a rfl
    · obtain ⟨c2, h2⟩ := owns_has hT.2.2.1 e
      exact has_ne h2 h1 int_ne rfl
    · obtain ⟨c2, h2⟩ := owns_has hT.2.2.2 e
      exact has_ne h1 h2 ttr_b rfl
  · rcases e with e | e | e
    · subst e
      exact has_ne hc hT.1 (Ne.symm tty_a) rfl
    · exact hne x hx k hxk e
    · obtain ⟨c2, h2⟩ := owns_has hT.2.2.2 e
      exact has_ne hc h2 tty_c rfl
  · rcases hD.2.1 k e with e' | e'
    · exact hne x hx k hk e'
    · obtain ⟨i, hi, hie⟩ := List.getElem_of_mem hx
      obtain ⟨ds, _, ho⟩ := h.2 i x (by rw [List.getElem?_eq_getElem hi, hie])
      have := (World.ownsRow.lt ho k hk).2
      omega

/-- The state of the loop that tells all traces. -/
def TrL (w0 wr : World) (os : List St) (g m c : Nat) (A : Option Addr) (v more : Value) (gn : Nat) : Prop :=
  ∃ (row : List Int) (stk : List Rn) (now : Rn) (vr vs : Value) (rs : List (List Int)) (vl : List Value), Trcr wr g m A c os row stk now vr vs ∧ Inv os row stk now ∧ RowsV wr (g + 1) v rs vl ∧ Apart vl ∧ (∀ x ∈ vl, ∀ k, x.ownBlock = some k → vr.ownBlock ≠ some k) ∧ Below w0.heap.size w0 wr ∧ w0.heap.size ≤ g ∧
    ((more = .bool true ∧ (traces os).map (·.1) = rs ++ row :: (filt (rest os row stk row.length)).map (·.1) ∧ gn = (filt (rest os row stk row.length)).length + 1) ∨ (more = .bool false ∧ (traces os).map (·.1) = rs))

theorem TrL.next {w0 wr w' : World} {os : List St} {g m c : Nat} {A : Option Addr} {v : Value} {row : List Int} {stk : List Rn} {now : Rn} {vr vs : Value} {rs : List (List Int)} {vl : List Value} {ls : List Leaf} {b : Bool}
    (hT : Trcr wr g m A c os row stk now vr vs) (hR : RowsV wr (g + 1) v rs vl) (ha : Apart vl) (hne : ∀ x ∈ vl, ∀ k, x.ownBlock = some k → vr.ownBlock ≠ some k) (hB : Below w0.heap.size w0 wr) (hg : w0.heap.size ≤ g)
    (htr : (traces os).map (·.1) = rs ++ (filt ls).map (·.1)) (hW : Wtd os m g c A ls vr vs wr (.returned (.bool b)) w') : ∃ gn, TrL w0 w' os g m c A v (.bool b) gn ∧ gn ≤ (filt ls).length := by
  obtain ⟨row', stk', now', vr', vs', hT', hI', hD', hr⟩ := hW
  obtain ⟨hR', hne'⟩ := hR.traced hT hD' hne
  have hB' : Below w0.heap.size w0 w' := hB.trans (hD'.1.below (B := w0.heap.size) (fun i hi e => by
    rcases e with e | e | e
    · omega
    · have := (hT.row_gt e).1; omega
    · have := (hT.stk_gt e).1; omega) hB.size)
  rcases hr with ⟨he, hw, hf⟩ | ⟨he, hf⟩
  · injection he with he
    injection he with he
    subst he
    refine ⟨(filt (rest os row' stk' row'.length)).length + 1, ⟨row', stk', now', vr', vs', rs, vl, hT', hI', hR', ha, hne', hB', hg, .inl ⟨rfl, ?_, rfl⟩⟩, ?_⟩
    · rw [htr, hf]; rfl
    · rw [hf]; exact Nat.le_refl _
  · injection he with he
    injection he with he
    subst he
    refine ⟨0, ⟨row', stk', now', vr', vs', rs, vl, hT', hI', hR', ha, hne', hB', hg, .inr ⟨rfl, ?_⟩⟩, Nat.zero_le _⟩
    rw [htr, hf, List.map_nil, List.append_nil]

theorem traces_len {os : List St} (h : os.length ≤ 12) : (traces os).length ≤ 531441 := by
  unfold traces filt
  exact Nat.le_trans (List.length_filter_le _ _) (lvR_len _ h)

set_option maxHeartbeats 2000000 in
theorem TracesOf_any (A : Option Addr) (n c : Nat) (ps : List St) (w : World) (h : Lst w w.heap.size A n ps) (hn : n ≤ c) (hc : c ≤ maxLen) :
    Calls Try.prog 35 #[.slice A n c] w (TrOa w (tracesOf ps)) := by
  have hC := Lib.hid (tracerOf_any A n c ps w h hn hc)
  clear h hc
  go_enter Try.func35, Try.ntmps35
  go_wp2_with fail
  refine (hC.out).mono ?_
  rintro e w1 ⟨hb1, ⟨hno, rfl⟩ | ⟨os, A3, m, c3, hu, hyes, hM, hlen, hOK, hL, rfl⟩⟩
  · have hR := Lib.hid hno
    have hB := Lib.hid hb1
    clear hno hb1
    go_wp2
    go_ret2
    refine ⟨.slice none 0 0, [], by rw [hR.out]; rfl, by rw [hR.out]; exact RowsV.nil _ _, Apart.nil, ?_⟩
    exact hB.out.alloc hB.out.size _
  · have hY := Lib.hid hyes
    have hMm := Lib.hid hM
    have hOk := Lib.hid hOK
    have hT0 : Trcr (w1.alloc (.cells #[.slice A3 m c3, .slice none 0 0, .slice none 0 0, .int .i64 0, .int .i64 0, .int .i64 1] 84)) w1.heap.size m A3 c3 os [] [] ⟨0, 0, 1⟩ (.slice none 0 0) (.slice none 0 0) :=
      ⟨Has.new w1 _ _, hL.below ((Below.refl _ _).alloc (Nat.le_refl _) _), IOwn.nil _ _, World.ownsRow_nil _ _ _ _⟩
    have hB0 : Below w.heap.size w (w1.alloc (.cells #[.slice A3 m c3, .slice none 0 0, .slice none 0 0, .int .i64 0, .int .i64 0, .int .i64 1] 84)) := hb1.alloc hb1.size _
    have hg := hb1.size
    have hI0 := Lib.hid (Inv.start os)
    have cW := Lib.hid (toWeight_any os m hM hlen hOK _ c3 A3 [] [] ⟨0, 0, 1⟩ _ _ _ hT0 hI0.out)
    have hT := Lib.hid hT0
    have hB := Lib.hid hB0
    clear hu hyes hM hOK hL hT0 hB0 hb1
    go_wp2_with fail
    generalize w1.alloc (.cells #[.slice A3 m c3, .slice none 0 0, .slice none 0 0, .int .i64 0, .int .i64 0, .int .i64 1] 84) = W at cW hT hB ⊢
    generalize w1.heap.size = g at hg cW hT ⊢
    refine (cW.out).mono ?_
    rintro e w2 hW
    obtain ⟨b, rfl⟩ : ∃ b, e = .returned (.bool b) := by
      obtain ⟨_, _, _, _, _, _, _, _, ⟨he, _⟩ | ⟨he, _⟩⟩ := hW
      · exact ⟨true, he⟩
      · exact ⟨false, he⟩
    have hL0 := Lib.hid (TrL.next (w0 := w) hT.out (RowsV.nil W (g + 1)) Apart.nil (fun x hx => by simp at hx) hB.out hg (show (traces os).map (·.1) = [] ++ _ from by
      unfold todo traces
      simp [rest, lpre_nil]) hW)
    clear hW
    go_wp2_with fail
    obtain ⟨g0, hTL0, _⟩ := hL0.out
    have hTL := Lib.hid hTL0
    clear hTL0 hL0 hT hB hI0 cW
    go_loopg [6, 7] g0 (fun gn v more wr => TrL w wr os g m c3 A3 v more gn)
    case atStart => exact hTL.out
    case round =>
      obtain ⟨row, stk, now, vr, vs, rs, vl, hT, hI, hR, ha, hne, hB, hg2, hor⟩ := hrel
      obtain ⟨Ar, cr, hvr, hrc, hrm⟩ := IOwn.form hT.2.2.1
      obtain ⟨AO, co, hvo, hlo, hmo⟩ := hR.form
      subst hvr hvo
      rcases hor with ⟨rfl, htr, hgn⟩ | ⟨rfl, htr⟩
      · have hrl : row.length ≤ 12 := by have := hI.len_le; have := hMm.out; omega
        have htl : rs.length + 1 ≤ 531441 := by
          have h1 := congrArg List.length htr
          rw [List.length_map, List.length_append, List.length_cons, List.length_map] at h1
          have h2 := traces_len (os := os) (by rw [hMm.out]; exact hlen)
          omega
        have hcg := hT.1.cell
        have cC := Lib.hid (copied_any Ar row.length cr row wr (hT.2.2.1.lst) (by omega))
        have hT' := Lib.hid hT
        have hI' := Lib.hid hI
        have hR' := Lib.hid hR
        have ha' := Lib.hid ha
        have hne' := Lib.hid hne
        have hB' := Lib.hid hB
        have htr' := Lib.hid htr
        have hgn' := Lib.hid hgn
        have hgw := hT.1.lt
        have hBs := hB.size
        obtain ⟨i0, hi0, hz0, hz1', hz2'⟩ := info_parts info_row
        clear hT hI hR ha hne hB htr hgn
        go_wp2_with fail
        refine (cC.out).mono ?_
        rintro e w3 ⟨rfl, hown3, hb3⟩
        have hT3 := Lib.hid (hT'.out.below hb3)
        have hR3 := Lib.hid (hR'.out.but (KeptBut.of_below hb3 (fun _ => False)) (fun _ _ h => h) (fun _ _ _ _ _ h => h))
        have hB3 := Lib.hid (hB'.out.trans (hb3.mono hBs))
        have hO3 := Lib.hid (owns_le hown3 (show g + 1 ≤ wr.heap.size from hgw))
        have hz3 := hb3.size
        have hnw := Lib.hid (new_one w3 (.slice (some ⟨wr.heap.size, 0, none⟩) row.length row.length) 24)
        have hK3 := KeptBut.alloc (KeptBut.refl w3 (fun _ => False)) (.cells #[.slice (some ⟨wr.heap.size, 0, none⟩) row.length row.length] 24)
        have hRa := Lib.hid (hR3.out.but hK3 (fun _ _ h => h) (fun _ _ _ _ _ h => h))
        have hOa := Lib.hid (IOwn.but (ds := row) hO3.out hK3 (fun _ _ h => h))
        clear hown3 hb3 hcg hK3
        go_wp2_with (at_builtin; refine wpList_append_lies _ rfl (.tmp 18) (.tmp 22) 43 rfl (g + 1) 24 i0 _ 1 24 Try.underlying43 hi0 hz0 hz1' hz2' rfl (by decide) (.slice AO rs.length co) rs.length vl rfl (by exact hRa.out.1) ⟨w3.heap.size, 0, none⟩ 1 1 [.slice (some ⟨wr.heap.size, 0, none⟩) row.length row.length] rfl rfl (by exact hnw.out) (by simp [Value.oneCell']) (by omega) (by unfold maxLen; omega) (by omega) (by simp; omega) (w3.heap.size + 1) (by simp) ?_; intro gl cl w4 hown4 hgrow4 hat4 hlt4)
        have hR4 := RowsV.append_ hRa.out hOa.out hown4 hgrow4
        have hK4 : KeptBut w3 w4 (fun i => (Value.slice AO rs.length co).ownBlock = some i) := grown_but hgrow4
        have hsep : ∀ k, (Value.slice AO rs.length co).ownBlock = some k → ∃ cur, Has w3 k 24 cur := fun k hk => owns_has hR3.out.1 hk
        have hB4 := hB3.out.trans (hK4.below (B := w.heap.size) (fun i hi e => by have := (World.ownsRow.lt hR3.out.1 i e).1; omega) hB3.out.size)
        have hT4 := hT3.out.keep hK4 (fun k e => by
          have h1 := (World.ownsRow.lt hR3.out.1 k e).1
          omega) (fun k hk e => by
          obtain ⟨c1, h2⟩ := hsep k e
          obtain ⟨c2, h3⟩ := owns_has hT3.out.2.2.1 hk
          exact has_ne h3 h2 int_ne rfl) (fun k hk e => by
          obtain ⟨c1, h2⟩ := hsep k e
          obtain ⟨c2, h3⟩ := owns_has hT3.out.2.2.2 hk
          exact has_ne h2 h3 ttr_b rfl)
        have hne4 : ∀ x ∈ vl ++ [Value.slice (some ⟨wr.heap.size, 0, none⟩) row.length row.length], ∀ k, x.ownBlock = some k → (Value.slice Ar row.length cr).ownBlock ≠ some k := fun x hx k hk e => by
          rcases List.mem_append.1 hx with hx | hx
          · exact hne'.out x hx k hk e
          · rw [List.mem_singleton] at hx
            subst hx
            have h1 := (hT'.out.row_gt e).2
            have h2 : wr.heap.size = k := by simpa [Value.ownBlock] using hk
            omega
        have ha4 := ha'.out.snoc (x := Value.slice (some ⟨wr.heap.size, 0, none⟩) row.length row.length) (fun y hy k hk e => by
          have h2 : wr.heap.size = k := by simpa [Value.ownBlock] using e
          obtain ⟨i, hi, hie⟩ := List.getElem_of_mem hy
          obtain ⟨ds, _, ho⟩ := hR'.out.2 i y (by rw [List.getElem?_eq_getElem hi, hie])
          have := (World.ownsRow.lt ho k hk).2
          omega)
        have hR4' := Lib.hid hR4
        have hB4' := Lib.hid hB4
        have hT4' := Lib.hid hT4
        have hne4' := Lib.hid hne4
        have ha4' := Lib.hid ha4
        have cN := Lib.hid (toNext_any os m hMm.out hlen hOk.out g c3 A3 row stk now _ _ w4 hT4 hI'.out)
        clear hR4 hK4 hsep hB4 hT4 hne4 ha4 hown4 hgrow4 hat4 hlt4
        go_wp2_with fail
        refine (cN.out).mono ?_
        rintro e w5 hW
        obtain ⟨b5, rfl⟩ : ∃ b, e = .returned (.bool b) := by
          obtain ⟨_, _, _, _, _, _, _, _, ⟨he, _⟩ | ⟨he, _⟩⟩ := hW
          · exact ⟨true, he⟩
          · exact ⟨false, he⟩
        have hL5 := Lib.hid (TrL.next (w0 := w) hT4'.out (by rw [← List.length_singleton (a := row), ← List.length_append] at hR4'; exact hR4'.out) ha4'.out hne4'.out hB4'.out hg (show (traces os).map (·.1) = (rs ++ [row]) ++ _ from by
          rw [htr'.out, List.append_assoc]; rfl) hW)
        clear hW
        go_wp2_with fail
        obtain ⟨g5, hTL5, hle5⟩ := hL5.out
        have hlt5 : g5 < gk := by have := hgn'.out; omega
        go_roundg g5
        case measure => exact hlt5
        case rel =>
          rw [List.length_append, List.length_singleton] at hTL5
          exact hTL5
      · have hR' := Lib.hid (hR.le (show w.heap.size ≤ g + 1 by omega))
        have hR2 := Lib.hid (And.intro ha (And.intro hB htr))
        clear hR ha hB htr hne hT hI
        go_wp2_with fail
        go_ret2
        refine ⟨.slice AO rs.length co, vl, by rw [hY.out]; rfl, ?_, hR2.out.1, hR2.out.2.1⟩
        rw [hY.out]
        show RowsV _ _ _ ((traces os).map (·.1)) _
        rw [hR2.out.2.2]
        exact hR'.out
end Go.Proofs.Ytbjpodgmmpchjaa

namespace Go.Proofs.Ytbjpodgmmpchjaa
set_option maxRecDepth 100000
set_option linter.unusedVariables false

theorem bestL_snoc : ∀ (ls : List Leaf) (l : Leaf) (b : List Int × Int), bestL (ls ++ [l]) b = if (bestL ls b).2 < l.2.2 then (l.1, l.2.2) else bestL ls b
  | [], l, b => rfl
  | x :: r, l, b => by
    rw [List.cons_append, bestL, bestL]
    exact bestL_snoc r l _
theorem bestL_ge : ∀ (ls : List Leaf) (b : List Int × Int), b.2 ≤ (bestL ls b).2
  | [], b => by simp [bestL]
  | x :: r, b => by
    rw [bestL]
    have := bestL_ge r (if b.2 < x.2.2 then (x.1, x.2.2) else b)
    split at this
    · rename_i h
      rw [if_pos h]
      have h2 : b.2 < x.2.2 := h
      exact Int.le_trans (Int.le_of_lt h2) this
    · rename_i h
      rw [if_neg h]
      exact this
theorem bestL_all : ∀ (ls : List Leaf) (b : List Int × Int), ∀ l ∈ ls, l.2.2 ≤ (bestL ls b).2
  | [], b, l, h => by simp at h
  | x :: r, b, l, h => by
    rw [bestL]
    rcases List.mem_cons.1 h with rfl | h
    · have := bestL_ge r (if b.2 < l.2.2 then (l.1, l.2.2) else b)
      split at this
      · rename_i hx
        rw [if_pos hx]
        exact this
      · rename_i hx
        rw [if_neg hx]
        omega
    · exact bestL_all r _ l h
theorem bestL_pos {ls : List Leaf} (h : ∀ l ∈ ls, 0 < l.2.2) (h0 : ls ≠ []) : 0 < (bestL ls ([], 0)).2 := by
  cases ls with
  | nil => exact absurd rfl h0
  | cons x r =>
    have h1 := bestL_all (x :: r) ([], 0) x List.mem_cons_self
    have h2 := h x List.mem_cons_self
    omega
theorem bestL_none : bestL [] ([], 0) = ([], 0) := rfl
/-- What is best is one of them, or what one began with. -/
theorem bestL_mem : ∀ (ls : List Leaf) (b : List Int × Int), bestL ls b = b ∨ ∃ l ∈ ls, bestL ls b = (l.1, l.2.2)
  | [], b => .inl rfl
  | x :: r, b => by
    rw [bestL]
    rcases bestL_mem r (if b.2 < x.2.2 then (x.1, x.2.2) else b) with h | ⟨l, hl, h⟩
    · by_cases hx : b.2 < x.2.2
      · right
        refine ⟨x, List.mem_cons_self, ?_⟩
        rw [h, if_pos hx]
      · left
        rw [h, if_neg hx]
    · exact .inr ⟨l, List.mem_cons_of_mem _ hl, h⟩
/-- How far one has come: the trace told, and what is left. -/
theorem bestL_append : ∀ (a c : List Leaf) (b : List Int × Int), bestL (a ++ c) b = bestL c (bestL a b)
  | [], c, b => rfl
  | x :: r, c, b => by
    rw [List.cons_append, bestL, bestL]
    exact bestL_append r c _
end Go.Proofs.Ytbjpodgmmpchjaa

namespace Go.Proofs.Ytbjpodgmmpchjaa
set_option maxRecDepth 100000
set_option linter.unusedVariables false
open Go.RowKit

/-- The first trace of the greatest weight; nothing and 0 if there is none. -/
def bst (o : Option (List Leaf)) : List Int × Int := bestL (o.getD []) ([], 0)
def Btd (w : World) (o : Option (List Leaf)) (e : Ending) (w' : World) : Prop :=
  ∃ v, e = .returned (.tuple #[v, .int .i64 (bst o).2, .bool (decide (0 < (bst o).2))]) ∧ IOwn w' w.heap.size v (bst o).1 ∧ Below w.heap.size w w'
theorem Btd.no {w w' : World} {o : Option (List Leaf)} (h : o.getD [] = []) (hb : Below w.heap.size w w') : Btd w o (.returned (.tuple #[.slice none 0 0, .int .i64 0, .bool false])) w' := by
  have e : bst o = ([], 0) := by unfold bst; rw [h]; rfl
  exact ⟨.slice none 0 0, by rw [e]; rfl, by rw [e]; exact IOwn.nil _ _, hb⟩

/-- The state of the loop that looks for the best trace. -/
def BsL (w0 wr : World) (os : List St) (g m c : Nat) (A : Option Addr) (vb most more : Value) (gn : Nat) : Prop :=
  ∃ (row : List Int) (stk : List Rn) (now : Rn) (vr vs : Value) (done : List Leaf), Trcr wr g m A c os row stk now vr vs ∧ Inv os row stk now ∧ IOwn wr (g + 1) vb (bestL done ([], 0)).1 ∧ most = .int .i64 (bestL done ([], 0)).2 ∧ (∀ k, vb.ownBlock = some k → vr.ownBlock ≠ some k) ∧ Below w0.heap.size w0 wr ∧ w0.heap.size ≤ g ∧
    ((more = .bool true ∧ 0 < now.wt ∧ traces os = done ++ (row, now.st, now.wt) :: filt (rest os row stk row.length) ∧ gn = (filt (rest os row stk row.length)).length + 1) ∨ (more = .bool false ∧ traces os = done))

theorem BsL.next {w0 wr w' : World} {os : List St} {g m c : Nat} {A : Option Addr} {vb : Value} {row : List Int} {stk : List Rn} {now : Rn} {vr vs : Value} {done : List Leaf} {ls : List Leaf} {b : Bool}
    (hT : Trcr wr g m A c os row stk now vr vs) (hR : IOwn wr (g + 1) vb (bestL done ([], 0)).1) (hne : ∀ k, vb.ownBlock = some k → vr.ownBlock ≠ some k) (hB : Below w0.heap.size w0 wr) (hg : w0.heap.size ≤ g)
    (htr : traces os = done ++ filt ls) (hW : Wtd os m g c A ls vr vs wr (.returned (.bool b)) w') : ∃ gn, BsL w0 w' os g m c A vb (.int .i64 (bestL done ([], 0)).2) (.bool b) gn ∧ gn ≤ (filt ls).length := by
  obtain ⟨row', stk', now', vr', vs', hT', hI', hD', hr⟩ := hW
  have hR' : IOwn w' (g + 1) vb (bestL done ([], 0)).1 := hR.but hD'.1 (fun k hk e => by
    rcases e with e | e | e
    · have := (World.ownsRow.lt hR k hk).1; omega
    · exact hne k hk e
    · obtain ⟨c1, h1⟩ := owns_has hR hk
      obtain ⟨c2, h2⟩ := owns_has hT.2.2.2 e
      exact has_ne h1 h2 tty_c rfl)
  have hne' : ∀ k, vb.ownBlock = some k → vr'.ownBlock ≠ some k := fun k hk e => by
    rcases hD'.2.1 k e with e' | e'
    · exact hne k hk e'
    · have := (World.ownsRow.lt hR k hk).2; omega
  have hB' : Below w0.heap.size w0 w' := hB.trans (hD'.1.below (B := w0.heap.size) (fun i hi e => by
    rcases e with e | e | e
    · omega
    · have := (hT.row_gt e).1; omega
    · have := (hT.stk_gt e).1; omega) hB.size)
  rcases hr with ⟨he, hw, hf⟩ | ⟨he, hf⟩
  · injection he with he
    injection he with he
    subst he
    refine ⟨(filt (rest os row' stk' row'.length)).length + 1, ⟨row', stk', now', vr', vs', done, hT', hI', hR', rfl, hne', hB', hg, .inl ⟨rfl, hw, ?_, rfl⟩⟩, ?_⟩
    · rw [htr, hf]
    · rw [hf]; exact Nat.le_refl _
  · injection he with he
    injection he with he
    subst he
    refine ⟨0, ⟨row', stk', now', vr', vs', done, hT', hI', hR', rfl, hne', hB', hg, .inr ⟨rfl, ?_⟩⟩, Nat.zero_le _⟩
    rw [htr, hf, List.append_nil]

end Go.Proofs.Ytbjpodgmmpchjaa

namespace Go.Proofs.Ytbjpodgmmpchjaa
set_option maxRecDepth 100000
set_option linter.unusedVariables false
open Go.RowKit

theorem bestL_take {ls : List Leaf} {k : Nat} {l : Leaf} (h : ls[k]? = some l) (b : List Int × Int) : bestL (ls.take (k + 1)) b = if (bestL (ls.take k) b).2 < l.2.2 then (l.1, l.2.2) else bestL (ls.take k) b := by
  have hl := (List.getElem?_eq_some_iff.1 h).1
  rw [List.take_succ_eq_append_getElem hl, (List.getElem?_eq_some_iff.1 h).2]
  exact bestL_snoc _ _ _

end Go.Proofs.Ytbjpodgmmpchjaa
