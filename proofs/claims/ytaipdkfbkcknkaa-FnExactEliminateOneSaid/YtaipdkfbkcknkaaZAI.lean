/- Parts of the proof: Gj. -/
import Derived.Test.YtaipdkfbkcknkaaZAH
namespace Go.Proofs.Ytaipdkfbkcknkaa
set_option maxRecDepth 100000
set_option linter.unusedVariables false
open Go.RowKit
/-- Factors, and where they lie. -/
def RsFB (lo hi : Nat) (v : Value) (Fs : List Fac) (vs : List Value) (w : World) : Prop := RowsF w lo v Fs vs ∧ (∀ k, v.ownBlock = some k → k < hi) ∧ ∀ x ∈ vs, ∀ k, x.ownBlock = some k → lo ≤ k ∧ k < hi
theorem RsFB.pl {w : World} {base : Nat} {v : Value} {Fs : List Fac} {vs : List Value} (h : RowsF w base v Fs vs) : Pl (RsFB base w.heap.size v Fs vs) base w.heap.size w := by
  refine ⟨⟨h, fun k hk => (World.ownsRow.lt h.1 k hk).2, fun x hx k hk => ?_⟩, Nat.le_refl _, fun a b ha _ _ hab => ⟨⟨⟨ha.1.1.1, ?_⟩, fun i x hx => ?_⟩, ha.2⟩⟩
  · obtain ⟨i, hi, hie⟩ := List.getElem_of_mem hx
    obtain ⟨ds, _, ho⟩ := h.2 i x (by rw [List.getElem?_eq_getElem hi, hie])
    exact World.ownsRow.lt ho k hk
  · rcases ha.1.1.2 with h0 | ⟨g, cap, cur, hv, hg, hh, rest⟩
    · exact .inl h0
    · exact .inr ⟨g, cap, cur, hv, hg, (hab g hg (ha.2.1 g (by rw [hv]; rfl))).trans hh, rest⟩
  · obtain ⟨ds, hds, ho⟩ := ha.1.2 i x hx
    refine ⟨ds, hds, ho.1, ?_⟩
    rcases ho.2 with h0 | ⟨g, cap, cur, hv, hg, hh, rest⟩
    · exact .inl h0
    · exact .inr ⟨g, cap, cur, hv, hg, (hab g hg (ha.2.2 x (List.mem_of_getElem? hx) g (by rw [hv]; rfl)).2).trans hh, rest⟩
theorem info_fac : (Try.prog.info? 36).map (fun i => (i.zero, i.size, i.bytes)) = some (some (.agg #[.slice none 0 0, .slice none 0 0]), 2, 48) := by kernel_rfl
set_option maxHeartbeats 2000000 in
theorem toFactorS_own (A : Option Addr) (n c : Nat) (Fs : List Fac) (w : World) (h : FLst w w.heap.size A n Fs) (hs : ∀ F ∈ Fs, F.vs.length ≤ 1048576 ∧ F.ns.length ≤ 1048576) (hn : n ≤ 1048576) :
    Calls Try.prog 21 #[.slice A n c] w fun e w' => ∃ g vs, e = .returned (.slice (some ⟨g, 0, none⟩) n n) ∧ Pl (RsFB w.heap.size w'.heap.size (.slice (some ⟨g, 0, none⟩) n n) Fs vs) w.heap.size w'.heap.size w' ∧ Apart vs ∧ Below w.heap.size w w' := by
  have hH := Lib.hid h
  have hL := Lib.hid h.1
  have hSm := Lib.hid hs
  clear h hs
  obtain ⟨i0, hi0, hz0, hz1', hz2'⟩ := info_parts info_fac
  have hmk : ∀ wx : World, (Instr.makeSlice 28 (.int .i64 (n : Int)) (.int .i64 (n : Int))).run Try.prog wx = .ok (.slice (some ⟨wx.heap.size, 0, none⟩) n n) (wx.alloc (.cells (madeCells (Value.agg #[.slice none 0 0, .slice none 0 0]).cells (n * 2)) 36)) := by
    intro wx
    have hr := run_make (P := Try.prog) wx 28 36 i0 _ Try.underlying28 hi0 hz0 .i64 .i64 (n : Int) (n : Int) (by omega) (by omega) (by rw [hz2']; omega) (by omega)
    rw [hz1'] at hr
    simp only [Int.toNat_natCast] at hr
    exact hr
  go_enter Try.func21, Try.ntmps21
  go_wp2_with fail
  have hhas0 := Has.new w 36 (madeCells #[.slice none 0 0, .slice none 0 0] (n * 2))
  have hsz0 : (madeCells #[Value.slice none 0 0, Value.slice none 0 0] (n * 2)).size = n * 2 := size_madeCells _ _
  have hb0 : Below w.heap.size w (w.alloc (.cells (madeCells #[.slice none 0 0, .slice none 0 0] (n * 2)) 36)) := (Below.refl _ _).alloc (Nat.le_refl _) _
  have hH0 := Lib.hid hhas0
  have hB0 := Lib.hid hb0
  clear hhas0 hmk hb0
  generalize madeCells #[Value.slice none 0 0, Value.slice none 0 0] (n * 2) = cs0 at hH0 hB0 hsz0 ⊢
  generalize w.alloc (.cells cs0 36) = w0 at hH0 hB0 ⊢
  go_loopg [4] n (fun gn v wr => ∃ (k : Nat) (cs : Array Value) (vs : List Value), k ≤ n ∧ gn = n - k ∧ v = .int .i64 k ∧ Has wr w.heap.size 36 cs ∧ cs.size = n * 2 ∧ vs.length = k * 2 ∧ (∀ (i : Nat) (x : Value), vs[i]? = some x → cs[i]? = some x) ∧ (∀ (i : Nat) (x : Value), vs[i]? = some x → ∃ ds, (rowsF Fs)[i]? = some ds ∧ IOwn wr w.heap.size x ds) ∧ Apart vs ∧ Below w.heap.size w wr)
  case atStart => exact ⟨0, cs0, [], Nat.zero_le _, rfl, rfl, hH0.out, hsz0, rfl, fun i x hx => by simp at hx, fun i x hx => by simp at hx, Apart.nil, hB0.out⟩
  case round =>
    obtain ⟨k, cs, vs, hk, hgn, rfl, hhas, hcs, hvl, hfill, hrow, hap, hb⟩ := hrel
    have hgk : gk = n - k := hgn
    have hHas := Lib.hid hhas
    have hFill := Lib.hid hfill
    have hRow := Lib.hid hrow
    have hAp := Lib.hid hap
    have hBh := Lib.hid hb
    have hzz := hhas.lt
    clear hgn hhas hfill hrow hap
    by_cases hlt : k < n
    · obtain ⟨gl, off, F, B1, m1, e1, B2, m2, e2, rfl, hgl, hFk, cl1, cl2, hFW⟩ := (hH.out.below hb).at_ hlt
      have hk0 : (0 : Int) ≤ (k : Int) := by omega
      have hk1 : (k : Int) < (n : Int) := by omega
      obtain ⟨hb1, hb2⟩ := hSm.out F (List.mem_of_getElem? hFk)
      have hl1 := hFW.1.1
      have hl2 := hFW.2.1
      have cT := Lib.hid (toFactor_own B1 B2 m1 e1 m2 e2 F wr (hFW.more hb.size) (by omega) (by omega))
      have hR := Lib.hid (rowsF_get hFk)
      clear hFW hFk hb
      go_wp2_with fail
      clear cl1 cl2
      refine cT.out.mono ?_
      rintro e w1 ⟨g1, g2, rfl, pl, hne, hb3⟩
      have hB1 := Lib.hid (hBh.out.trans (hb3.mono hBh.out.size))
      have hHas1 := hHas.out.kept hb3
      have hO1 : IOwn w1 wr.heap.size (.slice (some ⟨g1, 0, none⟩) m1 m1) F.vs := by
        have h1 := pl.1.1.1
        unfold IOwn
        rwa [hl1]
      have hO2 : IOwn w1 wr.heap.size (.slice (some ⟨g2, 0, none⟩) m2 m2) F.ns := by
        have h1 := pl.1.2.1
        unfold IOwn
        rwa [hl2]
      have hlo1 := (World.ownsRow.lt hO1 g1 rfl).1
      have hlo2 := (World.ownsRow.lt hO2 g2 rfl).1
      have hold := Lib.hid (fun (i : Nat) (x : Value) (hx : vs[i]? = some x) (b : Nat) (hb : x.ownBlock = some b) => show b < wr.heap.size from by
        obtain ⟨ds, _, ho⟩ := hRow.out i x hx
        obtain ⟨c1, h1⟩ := owns_has ho hb
        exact h1.lt)
      have hkp : KeptBut w1 ((w1.setCell ⟨w.heap.size, k * 2, none⟩ (.slice (some ⟨g1, 0, none⟩) m1 m1)).setCell ⟨w.heap.size, k * 2 + 1, none⟩ (.slice (some ⟨g2, 0, none⟩) m2 m2)) (fun i => i = w.heap.size) := ((KeptBut.refl w1 (fun i => i = w.heap.size)).put (p := ⟨w.heap.size, k * 2, none⟩) (fun _ => rfl) _).put (p := ⟨w.heap.size, k * 2 + 1, none⟩) (fun _ => rfl) _
      have hNrow := Lib.hid (show ∀ (i : Nat) (x : Value), (vs ++ [.slice (some ⟨g1, 0, none⟩) m1 m1] ++ [.slice (some ⟨g2, 0, none⟩) m2 m2])[i]? = some x → ∃ ds, (rowsF Fs)[i]? = some ds ∧ IOwn ((w1.setCell ⟨w.heap.size, k * 2, none⟩ (.slice (some ⟨g1, 0, none⟩) m1 m1)).setCell ⟨w.heap.size, k * 2 + 1, none⟩ (.slice (some ⟨g2, 0, none⟩) m2 m2)) w.heap.size x ds from fun i x hx => by
        have hil := (List.getElem?_eq_some_iff.1 hx).1
        simp at hil
        by_cases h1 : i < vs.length
        · rw [List.getElem?_append_left (by simp; omega), List.getElem?_append_left h1] at hx
          obtain ⟨ds, hd, ho⟩ := hRow.out i x hx
          have ho1 := ho.below hb3
          exact ⟨ds, hd, ho1.but hkp (fun b e1 e2 => iown_ne ho1 hHas1 (by decide) b e1 e2)⟩
        · by_cases h2 : i = vs.length
          · rw [List.getElem?_append_left (by simp; omega), List.getElem?_append_right (by omega), h2, Nat.sub_self] at hx
            have hx' : Value.slice (some ⟨g1, 0, none⟩) m1 m1 = x := by simpa using hx
            subst hx'
            exact ⟨F.vs, by rw [h2, hvl]; exact hR.out.1, owns_le (hO1.but hkp (fun b e1 e2 => iown_ne hO1 hHas1 (by decide) b e1 e2)) hBh.out.size⟩
          · rw [List.getElem?_append_right (by simp; omega)] at hx
            have h3 : i - (vs ++ [Value.slice (some ⟨g1, 0, none⟩) m1 m1]).length = 0 := by simp; omega
            rw [h3] at hx
            have hx' : Value.slice (some ⟨g2, 0, none⟩) m2 m2 = x := by simpa using hx
            subst hx'
            have h4 : i = k * 2 + 1 := by omega
            exact ⟨F.ns, by rw [h4]; exact hR.out.2, owns_le (hO2.but hkp (fun b e1 e2 => iown_ne hO2 hHas1 (by decide) b e1 e2)) hBh.out.size⟩)
      have hNap := Lib.hid (show Apart (vs ++ [.slice (some ⟨g1, 0, none⟩) m1 m1] ++ [.slice (some ⟨g2, 0, none⟩) m2 m2]) from by
        refine (hAp.out.snoc fun y hy b hb e => ?_).snoc fun y hy b hb e => ?_
        · obtain ⟨i, hi, rfl⟩ := List.getElem_of_mem hy
          have h1 := hold.out i _ (List.getElem?_eq_getElem hi) b hb
          have h2 : g1 = b := by simpa [Value.ownBlock] using e
          omega
        · have h2 : g2 = b := by simpa [Value.ownBlock] using e
          rcases List.mem_append.1 hy with hy | hy
          · obtain ⟨i, hi, rfl⟩ := List.getElem_of_mem hy
            have h1 := hold.out i _ (List.getElem?_eq_getElem hi) b hb
            omega
          · have hy' : y = .slice (some ⟨g1, 0, none⟩) m1 m1 := by simpa using hy
            subst hy'
            have h3 : g1 = b := by simpa [Value.ownBlock] using hb
            omega)
      have hNh := Lib.hid ((hHas1.put (k * 2) (.slice (some ⟨g1, 0, none⟩) m1 m1)).put (k * 2 + 1) (.slice (some ⟨g2, 0, none⟩) m2 m2))
      have hNf := Lib.hid (show ∀ (i : Nat) (x : Value), (vs ++ [.slice (some ⟨g1, 0, none⟩) m1 m1] ++ [.slice (some ⟨g2, 0, none⟩) m2 m2])[i]? = some x → ((cs.setIfInBounds (k * 2) (.slice (some ⟨g1, 0, none⟩) m1 m1)).setIfInBounds (k * 2 + 1) (.slice (some ⟨g2, 0, none⟩) m2 m2))[i]? = some x from fun i x hx => by
        have hil := (List.getElem?_eq_some_iff.1 hx).1
        simp at hil
        by_cases h1 : i < vs.length
        · rw [List.getElem?_append_left (by simp; omega), List.getElem?_append_left h1] at hx
          rw [put_ne (by omega), put_ne (by omega)]
          exact hFill.out i x hx
        · by_cases h2 : i = vs.length
          · rw [List.getElem?_append_left (by simp; omega), List.getElem?_append_right (by omega), h2, Nat.sub_self] at hx
            have hx' : Value.slice (some ⟨g1, 0, none⟩) m1 m1 = x := by simpa using hx
            subst hx'
            rw [put_ne (by omega), put_at (by omega)]
          · rw [List.getElem?_append_right (by simp; omega)] at hx
            have h3 : i - (vs ++ [Value.slice (some ⟨g1, 0, none⟩) m1 m1]).length = 0 := by simp; omega
            rw [h3] at hx
            have hx' : Value.slice (some ⟨g2, 0, none⟩) m2 m2 = x := by simpa using hx
            subst hx'
            rw [put_at (by simp; omega)])
      have hfz := hHas1.frozen
      obtain ⟨u0, c0⟩ : ∃ u, w1.cell? ⟨w.heap.size, k * 2, none⟩ = some u := by
        rw [hHas1.cell]
        exact ⟨_, Array.getElem?_eq_getElem (by omega)⟩
      obtain ⟨u1, c1⟩ : ∃ u, w1.cell? ⟨w.heap.size, k * 2 + 1, none⟩ = some u := by
        rw [hHas1.cell]
        exact ⟨_, Array.getElem?_eq_getElem (by omega)⟩
      clear pl hb3 hHas1 hO1 hO2 hkp
      go_wp2_with fail
      go_roundg (n - (k + 1))
      case measure => omega
      case rel => exact ⟨k + 1, _, _, by omega, rfl, by go_num, hNh.out, by simp; exact hcs, by simp; omega, hNf.out, hNrow.out, hNap.out, (hB1.out.setCell (p := ⟨w.heap.size, k * 2, none⟩) (Nat.le_refl _) _).setCell (p := ⟨w.heap.size, k * 2 + 1, none⟩) (Nat.le_refl _) _⟩
    · obtain rfl : k = n := by omega
      have hL2 := hL.out
      have hRF := Lib.hid (show RowsF wr w.heap.size (.slice (some ⟨w.heap.size, 0, none⟩) k k) Fs vs from ⟨⟨by omega, .inr ⟨w.heap.size, k, cs, by rw [hL2], Nat.le_refl _, hHas.out, by omega, by unfold maxLen; omega, by omega, by
        apply List.ext_getElem?
        intro i
        rw [List.getElem?_take]
        by_cases hi : i < vs.length
        · rw [if_pos (by omega), Array.getElem?_toList, hFill.out i _ (List.getElem?_eq_getElem hi), List.getElem?_eq_getElem hi]
        · rw [List.getElem?_eq_none (l := vs) (by omega)]
          split
          · omega
          · rfl⟩⟩, hRow.out⟩)
      go_wp2_with fail
      go_ret
      exact ⟨_, vs, rfl, RsFB.pl hRF.out, hAp.out, hBh.out⟩
end Go.Proofs.Ytaipdkfbkcknkaa
