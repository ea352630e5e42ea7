/- The model's TracesOf. -/
import Derived.Test.YtjokiminlplbcaaFrm
namespace Go.Proofs.Ytjokiminlplbcaa
set_option maxRecDepth 100000
set_option linter.unusedVariables false
open Go.RowKit

theorem RowsV.le {w : World} {base base' : Nat} {v : Value} {rs : List (List Int)} {vs : List Value} (h : RowsV w base v rs vs) (hb : base' ≤ base) : RowsV w base' v rs vs :=
  ⟨owns_le h.1 hb, fun i x hx => by
    obtain ⟨ds, hd, ho⟩ := h.2 i x hx
    exact ⟨ds, hd, owns_le ho hb⟩⟩

/-- The rows of a program's traces. -/
def rowsT (o : Option (List Leaf)) : List (List Int) := (o.getD []).map fun l => l.1
/-- How telling all traces ends. -/
def TrOd (w : World) (o : Option (List Leaf)) (e : Ending) (w' : World) : Prop :=
  ∃ v vs, e = .returned (.tuple #[v, .bool o.isSome]) ∧ RowsV w' w.heap.size v (rowsT o) vs ∧ Below w.heap.size w w'
theorem TrOd.no {w w' : World} {o : Option (List Leaf)} (h : o = none) (hb : Below w.heap.size w w') : TrOd w o (.returned (.tuple #[.slice none 0 0, .bool false])) w' := by
  subst h; exact ⟨_, [], rfl, RowsV.nil _ _, hb⟩

theorem tracesOf_none {ps : List St} (h : unrolled ps = none) : tracesOf ps = none := by unfold tracesOf; rw [h]; rfl
theorem tracesOf_many {ps os : List St} (h : unrolled ps = some os) (hd : 6 < (os.filter St.draws).length) : tracesOf ps = none := by
  unfold tracesOf; rw [h]
  exact if_neg (by omega)
theorem tracesOf_some {ps os : List St} (h : unrolled ps = some os) (hd : (os.filter St.draws).length ≤ 6) : tracesOf ps = some (traces os) := by
  unfold tracesOf; rw [h]
  exact if_pos hd

theorem specTracesOf_any (A : Option Addr) (n c : Nat) (ps : List St) (w : World) (h : Lst w w.heap.size A n ps) (hn : n ≤ c) (hc : c ≤ maxLen) (hbig : n ≤ 1048576) :
    Calls Try.prog 17 #[.slice A n c] w (TrOd w (tracesOf ps)) := by
  have hC := Lib.hid (fun wx (hx : Lst wx wx.heap.size A n ps) => l1Unrolled_any A n c ps wx hx hn hc hbig)
  have hD := Lib.hid (fun wx (hx : Lst wx wx.heap.size A n ps) => specCountDraws_any A n c ps wx hx hn hc hbig)
  have hH := Lib.hid h
  clear h hc
  cases hu : unrolled ps with
  | none =>
    have hN := Lib.hid (show countDraws ps = -1 by unfold countDraws; rw [hu])
    have hR := Lib.hid (tracesOf_none hu)
    clear hu
    go_enter Try.func17, Try.ntmps17
    go_wp2_with fail
    refine (hD.out _ hH.out).mono ?_
    rw [hN.out]
    rintro e w1 ⟨rfl, hb⟩
    go_wp2
    go_ret2
    exact TrOd.no hR.out hb
  | some os =>
    have hN := Lib.hid (show countDraws ps = ((os.filter St.draws).length : Nat) by unfold countDraws; rw [hu])
    by_cases hm : 6 < (os.filter St.draws).length
    · have hR := Lib.hid (tracesOf_many hu hm)
      clear hu
      generalize (os.filter St.draws).length = D at hm hN
      go_enter Try.func17, Try.ntmps17
      go_wp2_with fail
      refine (hD.out _ hH.out).mono ?_
      rw [hN.out]
      rintro e w1 ⟨rfl, hb⟩
      go_wp2
      go_ret2
      exact TrOd.no hR.out hb
    · have hR := Lib.hid (tracesOf_some hu (by omega))
      have hU := Lib.hid hu
      obtain ⟨_, hlen, _, hNL, hOK⟩ := unrolled_parts hu
      have hOk := Lib.hid hOK
      have hNl := Lib.hid hNL
      clear hu hNL hOK
      generalize (os.filter St.draws).length = D at hm hN
      go_enter Try.func17, Try.ntmps17
      go_wp2_with fail
      refine (hD.out _ hH.out).mono ?_
      rw [hN.out]
      rintro e w1 ⟨rfl, hb⟩
      go_wp2_with fail
      refine (hC.out _ ((hH.out.below hb).more hb.size)).mono ?_
      rw [hU.out]
      rintro e w2 ⟨v, rfl, hown', hb2⟩
      have hown : Own w2 w1.heap.size v os := hown' os rfl
      obtain ⟨A3, c3, rfl, hlc, hcm⟩ := hown.form
      have hO := Lib.hid hown.lst
      have hB2 := Lib.hid (hb.trans (hb2.mono hb.size))
      have hz2 := hB2.out.size
      clear hown hown' hb hb2
      generalize hmm : os.length = m at hO hlen hlc ⊢
      have hM := Lib.hid hmm
      clear hmm
      go_wp2_with fail
      have hA0 := (Has.new w2 75 #[.slice A3 m c3, .slice none 0 0]).alloc (.cells #[] 3)
      have hB0 : Below w2.heap.size w2 ((w2.alloc (.cells #[.slice A3 m c3, .slice none 0 0] 75)).alloc (.cells #[] 3)) := ((Below.refl _ _).alloc (Nat.le_refl _) _).alloc (by simp) _
      have hL0 := hO.out.below hB0
      have hI0 : IOwn ((w2.alloc (.cells #[.slice A3 m c3, .slice none 0 0] 75)).alloc (.cells #[] 3)) (w2.heap.size + 1) (.slice (some ⟨w2.heap.size + 1, 0, none⟩) 0 0) [] := by
        have := own_none (w2.alloc (.cells #[.slice A3 m c3, .slice none 0 0] 75)) 3 (w2.heap.size + 1) (by simp)
        simpa [IOwn, ints] using this
      refine (from_any os m hM.out hlen hOk.out hNl.out w2.heap.size A3 c3 m ⟨0, 0, 1⟩ (.slice none 0 0) [] [] (w2.heap.size + 1) 0 0 [] _ (by simp) Rn.fit_start (by simp) rfl (by have := lvR_len (os := os) ⟨0, 0, 1⟩ (by rw [hM.out]; exact hlen); simp; omega) hA0 hL0 (RowsV.nil _ _) hI0).mono ?_
      rintro e w5 ⟨rfl, vo', vs', hA5, hR5, hK5, hb5⟩
      rw [List.nil_append] at hR5
      have hrw : rowsOf [] (lvR os ⟨0, 0, 1⟩) = rowsT (some (traces os)) := by
        unfold rowsOf rowsT traces
        simp
      rw [hrw] at hR5
      have hR5' := Lib.hid hR5
      obtain ⟨A5, c5, hv5, _, _⟩ := RowsV.form hR5
      subst hv5
      have hB5 := Lib.hid (hB2.out.trans ((hB0.mono hz2).trans (hK5.below (B := w.heap.size) (fun i hi e => by
        rcases e with e | e
        · omega
        · cases e) (by simp; omega))))
      have hc5 := hA5.cell
      clear hA0 hL0 hI0 hB0 hR5 hK5 hb5
      go_wp2
      go_ret2
      rw [hR.out]
      exact ⟨_, vs', rfl, hR5'.out.le (by omega), hB5.out⟩
end Go.Proofs.Ytjokiminlplbcaa
