/- Parts of the proof: Gj, Gk, K0, K4, K3, FT, FU, Gn, KF, L0. -/
import Derived.Test.YtdpeaabdpolmoaaZAH
import Derived.Test.YtdpeaabdpolmoaaZAC
import Derived.Test.YtdpeaabdpolmoaaZAG
import Derived.Deep.MidRow
import Derived.Deep.WholeRow
import Derived.Deep.LoopGhost
import Derived.Deep.QuietTactic
import Derived.BigQuiet
import Derived.StillTailTactics
import Derived.Deep.RegionHeld3
import Derived.Deep.RegionLaw
import Derived.Test.YtdpeaabdpolmoaaZAA
import Derived.Laws.CopyOwn
namespace Go.Proofs.Ytdpeaabdpolmoaa
set_option maxRecDepth 100000
set_option linter.unusedVariables false
open Go.RowKit
/-- Factors, and where they lie. -/
def RsFB (lo hi : Nat) (v : Value) (Fs : List Fac) (vs : List Value) (w : World) : Prop := RowsF w lo v Fs vs ∧ (∀ k, v.ownBlock = some k → k < hi) ∧ ∀ x ∈ vs, ∀ k, x.ownBlock = some k → lo ≤ k ∧ k < hi
theorem RsFB.pl {w : World} {base : Nat} {v : Value} {Fs : List Fac} {vs : List Value} (h : RowsF w base v Fs vs) : Pl (RsFB base w.heap.size v Fs vs) base w.heap.size w := by
  refine ⟨⟨h, fun k hk => (World.ownsRow.lt h.1 k hk).2, fun x hx k hk => ?_⟩, Nat.le_refl _, fun a b ha _ _ hab => ⟨⟨⟨ha.1.1.1, ?_⟩, fun i x hx => ?_⟩, ha.2⟩⟩
  · obtain ⟨i, hi, hie⟩ := List.getElem_of_mem hx
    obtain ⟨ds, _, ho⟩ := h.2 i x (by rw [List.getElem?_eq_getElem hi, hie])
    exact World.ownsRow.lt ho k hk
  · rcases ha.1.1.2 with h0 | ⟨g, cap, cur, hv, hg, hh, rest⟩
    · exact .inl h0
    · exact .inr ⟨g, cap, cur, hv, hg, (hab g hg (ha.2.1 g (by rw [hv]; rfl))).trans hh, rest⟩
  · obtain ⟨ds, hds, ho⟩ := ha.1.2 i x hx
    refine ⟨ds, hds, ho.1, ?_⟩
    rcases ho.2 with h0 | ⟨g, cap, cur, hv, hg, hh, rest⟩
    · exact .inl h0
    · exact .inr ⟨g, cap, cur, hv, hg, (hab g hg (ha.2.2 x (List.mem_of_getElem? hx) g (by rw [hv]; rfl)).2).trans hh, rest⟩
theorem info_fac : (Try.prog.info? 44).map (fun i => (i.zero, i.size, i.bytes)) = some (some (.agg #[.slice none 0 0, .slice none 0 0]), 2, 48) := by kernel_rfl
set_option maxHeartbeats 2000000 in
theorem toFactorS_own (A : Option Addr) (n c : Nat) (Fs : List Fac) (w : World) (h : FLst w w.heap.size A n Fs) (hs : ∀ F ∈ Fs, F.vs.length ≤ 1048576 ∧ F.ns.length ≤ 1048576) (hn : n ≤ 1048576) :
    Calls Try.prog 17 #[.slice A n c] w fun e w' => ∃ g vs, e = .returned (.slice (some ⟨g, 0, none⟩) n n) ∧ Pl (RsFB w.heap.size w'.heap.size (.slice (some ⟨g, 0, none⟩) n n) Fs vs) w.heap.size w'.heap.size w' ∧ Apart vs ∧ Below w.heap.size w w' := by
  have hH := Lib.hid h
  have hL := Lib.hid h.1
  have hSm := Lib.hid hs
  clear h hs
  obtain ⟨i0, hi0, hz0, hz1', hz2'⟩ := info_parts info_fac
  have hmk : ∀ wx : World, (Instr.makeSlice 25 (.int .i64 (n : Int)) (.int .i64 (n : Int))).run Try.prog wx = .ok (.slice (some ⟨wx.heap.size, 0, none⟩) n n) (wx.alloc (.cells (madeCells (Value.agg #[.slice none 0 0, .slice none 0 0]).cells (n * 2)) 44)) := by
    intro wx
    have hr := run_make (P := Try.prog) wx 25 44 i0 _ Try.underlying25 hi0 hz0 .i64 .i64 (n : Int) (n : Int) (by omega) (by omega) (by rw [hz2']; omega) (by omega)
    rw [hz1'] at hr
    simp only [Int.toNat_natCast] at hr
    exact hr
  go_enter Try.func17, Try.ntmps17
  go_wp2_with fail
  have hhas0 := Has.new w 44 (madeCells #[.slice none 0 0, .slice none 0 0] (n * 2))
  have hsz0 : (madeCells #[Value.slice none 0 0, Value.slice none 0 0] (n * 2)).size = n * 2 := size_madeCells _ _
  have hb0 : Below w.heap.size w (w.alloc (.cells (madeCells #[.slice none 0 0, .slice none 0 0] (n * 2)) 44)) := (Below.refl _ _).alloc (Nat.le_refl _) _
  have hH0 := Lib.hid hhas0
  have hB0 := Lib.hid hb0
  clear hhas0 hmk hb0
  generalize madeCells #[Value.slice none 0 0, Value.slice none 0 0] (n * 2) = cs0 at hH0 hB0 hsz0 ⊢
  generalize w.alloc (.cells cs0 44) = w0 at hH0 hB0 ⊢
  go_loopg [4] n (fun gn v wr => ∃ (k : Nat) (cs : Array Value) (vs : List Value), k ≤ n ∧ gn = n - k ∧ v = .int .i64 k ∧ Has wr w.heap.size 44 cs ∧ cs.size = n * 2 ∧ vs.length = k * 2 ∧ (∀ (i : Nat) (x : Value), vs[i]? = some x → cs[i]? = some x) ∧ (∀ (i : Nat) (x : Value), vs[i]? = some x → ∃ ds, (rowsF Fs)[i]? = some ds ∧ IOwn wr w.heap.size x ds) ∧ Apart vs ∧ Below w.heap.size w wr)
  case atStart => exact ⟨0, cs0, [], Nat.zero_le _, rfl, rfl, hH0.out, hsz0, rfl, fun i x hx => by simp at hx, fun i x hx => by simp at hx, Apart.nil, hB0.out⟩
  case round =>
    obtain ⟨k, cs, vs, hk, hgn, rfl, hhas, hcs, hvl, hfill, hrow, hap, hb⟩ := hrel
    have hgk : gk = n - k := hgn
    have hHas := Lib.hid hhas
    have hFill := Lib.hid hfill
    have hRow := Lib.hid hrow
    have hAp := Lib.hid hap
    have hBh := Lib.hid hb
    have hzz := hhas.lt
    clear hgn hhas hfill hrow hap
    by_cases hlt : k < n
    · obtain ⟨gl, off, F, B1, m1, e1, B2, m2, e2, rfl, hgl, hFk, cl1, cl2, hFW⟩ := (hH.out.below hb).at_ hlt
      have hk0 : (0 : Int) ≤ (k : Int) := by omega
      have hk1 : (k : Int) < (n : Int) := by omega
      obtain ⟨hb1, hb2⟩ := hSm.out F (List.mem_of_getElem? hFk)
      have hl1 := hFW.1.1
      have hl2 := hFW.2.1
      have cT := Lib.hid (toFactor_own B1 B2 m1 e1 m2 e2 F wr (hFW.more hb.size) (by omega) (by omega))
      have hR := Lib.hid (rowsF_get hFk)
      clear hFW hFk hb
      go_wp2_with fail
      clear cl1 cl2
      refine cT.out.mono ?_
      rintro e w1 ⟨g1, g2, rfl, pl, hne, hb3⟩
      have hB1 := Lib.hid (hBh.out.trans (hb3.mono hBh.out.size))
      have hHas1 := hHas.out.kept hb3
      have hO1 : IOwn w1 wr.heap.size (.slice (some ⟨g1, 0, none⟩) m1 m1) F.vs := by
        have h1 := pl.1.1.1
        unfold IOwn
        rwa [hl1]
      have hO2 : IOwn w1 wr.heap.size (.slice (some ⟨g2, 0, none⟩) m2 m2) F.ns := by
        have h1 := pl.1.2.1
        unfold IOwn
        rwa [hl2]
      have hlo1 := (World.ownsRow.lt hO1 g1 rfl).1
      have hlo2 := (World.ownsRow.lt hO2 g2 rfl).1
      have hold := Lib.hid (fun (i : Nat) (x : Value) (hx : vs[i]? = some x) (b : Nat) (hb : x.ownBlock = some b) => show b < wr.heap.size from by
        obtain ⟨ds, _, ho⟩ := hRow.out i x hx
        obtain ⟨c1, h1⟩ := owns_has ho hb
        exact h1.lt)
      have hkp : KeptBut w1 ((w1.setCell ⟨w.heap.size, k * 2, none⟩ (.slice (some ⟨g1, 0, none⟩) m1 m1)).setCell ⟨w.heap.size, k * 2 + 1, none⟩ (.slice (some ⟨g2, 0, none⟩) m2 m2)) (fun i => i = w.heap.size) := ((KeptBut.refl w1 (fun i => i = w.heap.size)).put (p := ⟨w.heap.size, k * 2, none⟩) (fun _ => rfl) _).put (p := ⟨w.heap.size, k * 2 + 1, none⟩) (fun _ => rfl) _
      have hNrow := Lib.hid (show ∀ (i : Nat) (x : Value), (vs ++ [.slice (some ⟨g1, 0, none⟩) m1 m1] ++ [.slice (some ⟨g2, 0, none⟩) m2 m2])[i]? = some x → ∃ ds, (rowsF Fs)[i]? = some ds ∧ IOwn ((w1.setCell ⟨w.heap.size, k * 2, none⟩ (.slice (some ⟨g1, 0, none⟩) m1 m1)).setCell ⟨w.heap.size, k * 2 + 1, none⟩ (.slice (some ⟨g2, 0, none⟩) m2 m2)) w.heap.size x ds from fun i x hx => by
        have hil := (List.getElem?_eq_some_iff.1 hx).1
        simp at hil
        by_cases h1 : i < vs.length
        · rw [List.getElem?_append_left (by simp; omega), List.getElem?_append_left h1] at hx
          obtain ⟨ds, hd, ho⟩ := hRow.out i x hx
          have ho1 := ho.below hb3
          exact ⟨ds, hd, ho1.but hkp (fun b e1 e2 => iown_ne ho1 hHas1 (by decide) b e1 e2)⟩
        · by_cases h2 : i = vs.length
          · rw [List.getElem?_append_left (by simp; omega), List.getElem?_append_right (by omega), h2, Nat.sub_self] at hx
            have hx' : Value.slice (some ⟨g1, 0, none⟩) m1 m1 = x := by simpa using hx
            subst hx'
            exact ⟨F.vs, by rw [h2, hvl]; exact hR.out.1, owns_le (hO1.but hkp (fun b e1 e2 => iown_ne hO1 hHas1 (by decide) b e1 e2)) hBh.out.size⟩
          · rw [List.getElem?_append_right (by simp; omega)] at hx
            have h3 : i - (vs ++ [Value.slice (some ⟨g1, 0, none⟩) m1 m1]).length = 0 := by simp; omega
            rw [h3] at hx
            have hx' : Value.slice (some ⟨g2, 0, none⟩) m2 m2 = x := by simpa using hx
            subst hx'
            have h4 : i = k * 2 + 1 := by omega
            exact ⟨F.ns, by rw [h4]; exact hR.out.2, owns_le (hO2.but hkp (fun b e1 e2 => iown_ne hO2 hHas1 (by decide) b e1 e2)) hBh.out.size⟩)
      have hNap := Lib.hid (show Apart (vs ++ [.slice (some ⟨g1, 0, none⟩) m1 m1] ++ [.slice (some ⟨g2, 0, none⟩) m2 m2]) from by
        refine (hAp.out.snoc fun y hy b hb e => ?_).snoc fun y hy b hb e => ?_
        · obtain ⟨i, hi, rfl⟩ := List.getElem_of_mem hy
          have h1 := hold.out i _ (List.getElem?_eq_getElem hi) b hb
          have h2 : g1 = b := by simpa [Value.ownBlock] using e
          omega
        · have h2 : g2 = b := by simpa [Value.ownBlock] using e
          rcases List.mem_append.1 hy with hy | hy
          · obtain ⟨i, hi, rfl⟩ := List.getElem_of_mem hy
            have h1 := hold.out i _ (List.getElem?_eq_getElem hi) b hb
            omega
          · have hy' : y = .slice (some ⟨g1, 0, none⟩) m1 m1 := by simpa using hy
            subst hy'
            have h3 : g1 = b := by simpa [Value.ownBlock] using hb
            omega)
      have hNh := Lib.hid ((hHas1.put (k * 2) (.slice (some ⟨g1, 0, none⟩) m1 m1)).put (k * 2 + 1) (.slice (some ⟨g2, 0, none⟩) m2 m2))
      have hNf := Lib.hid (show ∀ (i : Nat) (x : Value), (vs ++ [.slice (some ⟨g1, 0, none⟩) m1 m1] ++ [.slice (some ⟨g2, 0, none⟩) m2 m2])[i]? = some x → ((cs.setIfInBounds (k * 2) (.slice (some ⟨g1, 0, none⟩) m1 m1)).setIfInBounds (k * 2 + 1) (.slice (some ⟨g2, 0, none⟩) m2 m2))[i]? = some x from fun i x hx => by
        have hil := (List.getElem?_eq_some_iff.1 hx).1
        simp at hil
        by_cases h1 : i < vs.length
        · rw [List.getElem?_append_left (by simp; omega), List.getElem?_append_left h1] at hx
          rw [put_ne (by omega), put_ne (by omega)]
          exact hFill.out i x hx
        · by_cases h2 : i = vs.length
          · rw [List.getElem?_append_left (by simp; omega), List.getElem?_append_right (by omega), h2, Nat.sub_self] at hx
            have hx' : Value.slice (some ⟨g1, 0, none⟩) m1 m1 = x := by simpa using hx
            subst hx'
            rw [put_ne (by omega), put_at (by omega)]
          · rw [List.getElem?_append_right (by simp; omega)] at hx
            have h3 : i - (vs ++ [Value.slice (some ⟨g1, 0, none⟩) m1 m1]).length = 0 := by simp; omega
            rw [h3] at hx
            have hx' : Value.slice (some ⟨g2, 0, none⟩) m2 m2 = x := by simpa using hx
            subst hx'
            rw [put_at (by simp; omega)])
      have hfz := hHas1.frozen
      obtain ⟨u0, c0⟩ : ∃ u, w1.cell? ⟨w.heap.size, k * 2, none⟩ = some u := by
        rw [hHas1.cell]
        exact ⟨_, Array.getElem?_eq_getElem (by omega)⟩
      obtain ⟨u1, c1⟩ : ∃ u, w1.cell? ⟨w.heap.size, k * 2 + 1, none⟩ = some u := by
        rw [hHas1.cell]
        exact ⟨_, Array.getElem?_eq_getElem (by omega)⟩
      clear pl hb3 hHas1 hO1 hO2 hkp
      go_wp2_with fail
      go_roundg (n - (k + 1))
      case measure => omega
      case rel => exact ⟨k + 1, _, _, by omega, rfl, by go_num, hNh.out, by simp; exact hcs, by simp; omega, hNf.out, hNrow.out, hNap.out, (hB1.out.setCell (p := ⟨w.heap.size, k * 2, none⟩) (Nat.le_refl _) _).setCell (p := ⟨w.heap.size, k * 2 + 1, none⟩) (Nat.le_refl _) _⟩
    · obtain rfl : k = n := by omega
      have hL2 := hL.out
      have hRF := Lib.hid (show RowsF wr w.heap.size (.slice (some ⟨w.heap.size, 0, none⟩) k k) Fs vs from ⟨⟨by omega, .inr ⟨w.heap.size, k, cs, by rw [hL2], Nat.le_refl _, hHas.out, by omega, by unfold maxLen; omega, by omega, by
        apply List.ext_getElem?
        intro i
        rw [List.getElem?_take]
        by_cases hi : i < vs.length
        · rw [if_pos (by omega), Array.getElem?_toList, hFill.out i _ (List.getElem?_eq_getElem hi), List.getElem?_eq_getElem hi]
        · rw [List.getElem?_eq_none (l := vs) (by omega)]
          split
          · omega
          · rfl⟩⟩, hRow.out⟩)
      go_wp2_with fail
      go_ret
      exact ⟨_, vs, rfl, RsFB.pl hRF.out, hAp.out, hBh.out⟩
end Go.Proofs.Ytdpeaabdpolmoaa

namespace Go.Proofs.Ytdpeaabdpolmoaa
set_option maxRecDepth 100000
set_option linter.unusedVariables false
open Go.RowKit
/-- The rows' memory is numbered through. -/
def MkdF (w : World) (base : Nat) (A : Option Addr) (n c : Nat) (Fs : List Fac) (vs : List Value) (m : Int) : Prop :=
  w.ownsRow base 44 2 (.slice A n c) n vs ∧ ∀ (i : Nat) (ds : List Int), (rowsF Fs)[i]? = some ds → ∃ Ax cx, vs[i]? = some (.slice Ax ds.length cx) ∧ Ils w w.heap.size Ax ds.length (nums (m + offs (rowsF Fs) i) ds.length)
def MkFB (lo hi : Nat) (A : Option Addr) (n c : Nat) (Fs : List Fac) (vs : List Value) (m : Int) (w : World) : Prop := MkdF w lo A n c Fs vs m ∧ (∀ k, (Value.slice A n c).ownBlock = some k → k < hi) ∧ ∀ x ∈ vs, ∀ k, x.ownBlock = some k → lo ≤ k ∧ k < hi
theorem MkFB.pl {w : World} {lo hi n c : Nat} {A : Option Addr} {Fs : List Fac} {vs : List Value} {m : Int} (h : MkdF w lo A n c Fs vs m) (h1 : ∀ k, (Value.slice A n c).ownBlock = some k → k < hi) (h2 : ∀ x ∈ vs, ∀ k, x.ownBlock = some k → lo ≤ k ∧ k < hi) (hh : hi ≤ w.heap.size) : Pl (MkFB lo hi A n c Fs vs m) lo hi w := by
  refine ⟨⟨h, h1, h2⟩, hh, fun a b ha hs hab hk => ⟨⟨⟨ha.1.1.1, ?_⟩, fun i ds hds => ?_⟩, ha.2⟩⟩
  · rcases ha.1.1.2 with h0 | ⟨g, cap, cur, hv, hg, hh, rest⟩
    · exact .inl h0
    · exact .inr ⟨g, cap, cur, hv, hg, (hk g hg (ha.2.1 g (by rw [hv]; rfl))).trans hh, rest⟩
  · obtain ⟨Ax, cx, hx, hi⟩ := ha.1.2 i ds hds
    refine ⟨Ax, cx, hx, hi.1, fun hn => ?_⟩
    obtain ⟨g, off, e, hg, hc⟩ := hi.2 hn
    have hg2 := ha.2.2 _ (List.mem_of_getElem? hx) g (by rw [e]; rfl)
    refine ⟨g, off, e, Nat.lt_of_lt_of_le hg hab, fun k d hd => (World.cell?_of_block ?_).trans (hc k d hd)⟩
    exact hk g hg2.1 hg2.2
theorem MkdF.cell {w : World} {base : Nat} {A : Option Addr} {n c k : Nat} {Fs : List Fac} {vs : List Value} {m : Int} (h : MkdF w base A n c Fs vs m) (hL : Fs.length = n) (hk : k < n) :
    ∃ (g : Nat) (F : Fac) (A1 : Option Addr) (c1 : Nat) (A2 : Option Addr) (c2 : Nat), A = some ⟨g, 0, none⟩ ∧ Fs[k]? = some F ∧ w.cell? ⟨g, k * 2, none⟩ = some (.slice A1 F.vs.length c1) ∧ w.cell? ⟨g, k * 2 + 1, none⟩ = some (.slice A2 F.ns.length c2) ∧ Ils w w.heap.size A1 F.vs.length (nums (m + offs (rowsF Fs) (k * 2)) F.vs.length) ∧ Ils w w.heap.size A2 F.ns.length (nums (m + offs (rowsF Fs) (k * 2 + 1)) F.ns.length) := by
  obtain ⟨F, hF⟩ : ∃ F, Fs[k]? = some F := ⟨_, List.getElem?_eq_getElem (by omega)⟩
  obtain ⟨r1, r2⟩ := rowsF_get hF
  obtain ⟨A1, c1, hx, hi⟩ := h.2 _ _ r1
  obtain ⟨A2, c2, hy, hj⟩ := h.2 _ _ r2
  rcases h.1.2 with ⟨hv, hn0⟩ | ⟨g, cap, cur, hv, _⟩
  · omega
  · injection hv with e1 _ _
    subst e1
    refine ⟨g, F, A1, c1, A2, c2, rfl, hF, ?_, ?_, hi, hj⟩
    · rw [← World.ownsRow.cells h.1 (g := g) rfl _ _ hx, cell_add]
    · rw [← World.ownsRow.cells h.1 (g := g) rfl _ _ hy, cell_add]
theorem offs_two {Fs : List Fac} {k : Nat} {F : Fac} (h : Fs[k]? = some F) : offs (rowsF Fs) (k * 2 + 1) = offs (rowsF Fs) (k * 2) + F.vs.length ∧ offs (rowsF Fs) ((k + 1) * 2) = offs (rowsF Fs) (k * 2) + F.vs.length + F.ns.length := by
  obtain ⟨r1, r2⟩ := rowsF_get h
  have h1 := offs_succ r1
  have h2 := offs_succ r2
  have e : (k + 1) * 2 = k * 2 + 1 + 1 := by omega
  rw [e, h2, h1]
  exact ⟨rfl, rfl⟩
theorem offs_mono_ (rs : List (List Int)) : ∀ d k : Nat, offs rs k ≤ offs rs (k + d)
  | 0, k => Nat.le_refl _
  | d + 1, k => by
    have ih := offs_mono_ rs d k
    cases h : rs[k + d]? with
    | none =>
      have hl := List.getElem?_eq_none_iff.1 h
      have e : offs rs (k + (d + 1)) = offs rs (k + d) := by
        unfold offs
        rw [List.take_of_length_le (by omega), List.take_of_length_le hl]
      rw [e]
      exact ih
    | some F =>
      have := offs_succ h
      have e : k + (d + 1) = k + d + 1 := by omega
      rw [e, this]
      omega
set_option maxHeartbeats 2000000 in
theorem markFactorS_any (A : Option Addr) (n c base : Nat) (Fs : List Fac) (vs : List Value) (m : Int) (w : World) (h : RowsF w base (.slice A n c) Fs vs) (ha : Apart vs) (hL : Fs.length = n) (hm : 0 ≤ m) (hm2 : m ≤ 1000000000) (hn : n ≤ 1048576) (ht : offs (rowsF Fs) (n * 2) ≤ 10000000) :
    Calls Try.prog 23 #[.slice A n c, .int .i64 m] w fun e w' => e = .returned (.int .i64 (m + offs (rowsF Fs) (n * 2))) ∧ MkdF w' base A n c Fs vs m ∧ KeptBut w w' (RowB vs (n * 2)) := by
  have hH := Lib.hid h
  have hap := Lib.hid ha
  have hof := Lib.hid (fun k (hk : k < n) => show offs (rowsF Fs) ((k + 1) * 2) ≤ 10000000 from by
    have := offs_mono_ (rowsF Fs) (n * 2 - (k + 1) * 2) ((k + 1) * 2)
    rw [show (k + 1) * 2 + (n * 2 - (k + 1) * 2) = n * 2 by omega] at this
    omega)
  have hvl := h.length
  have houter := Lib.hid (show ∀ (wr : World) (k : Nat), KeptBut w wr (RowB vs k) → wr.ownsRow base 44 2 (.slice A n c) n vs from fun wr k hk => by
    have := owns_but h.1 hk (fun b hb ⟨i, x, _, hx, hxb⟩ => by
      obtain ⟨ds, _, ho⟩ := h.2 i x hx
      obtain ⟨c1, h1⟩ := owns_has ho hxb
      obtain ⟨c2, h2⟩ := owns_has h.1 hb
      exact has_ne h1 h2 fac_ne_int rfl)
    rwa [hL] at this)
  clear h ha ht
  go_enter Try.func23, Try.ntmps23
  go_wp2_with fail
  go_loopg [1, 5] n (fun gn q i wr => ∃ k : Nat, k ≤ n ∧ gn = n - k ∧ i = .int .i64 k ∧ q = .int .i64 (m + offs (rowsF Fs) (k * 2)) ∧ KeptBut w wr (RowB vs (k * 2)) ∧ ∀ (j : Nat) (ds : List Int), j < k * 2 → (rowsF Fs)[j]? = some ds → ∃ Ax cx, vs[j]? = some (.slice Ax ds.length cx) ∧ Ils wr wr.heap.size Ax ds.length (nums (m + offs (rowsF Fs) j) ds.length))
  case atStart => exact ⟨0, Nat.zero_le _, rfl, rfl, by simp [offs_zero], KeptBut.refl _ _, fun j ds hj => absurd hj (by omega)⟩
  case round =>
    obtain ⟨k, hk, hgn, rfl, rfl, hK, hMk⟩ := hrel
    have hgk : gk = n - k := hgn
    have hKh := Lib.hid hK
    have hMh := Lib.hid hMk
    have hO := houter.out wr _ hK
    clear hMk hgn
    by_cases hlt : k < n
    · obtain ⟨g, F, A1, c1, A2, c2, hA, hFk, hv1, hv2, _, _, ho1, ho2, _⟩ := hH.out.at_ hL hlt
      subst hA
      obtain ⟨r1, r2⟩ := rowsF_get hFk
      have hk0 : (0 : Int) ≤ (k : Int) := by omega
      have hk1 : (k : Int) < (n : Int) := by omega
      obtain ⟨of1, of2⟩ := offs_two hFk
      have hok := hof.out k hlt
      rw [of2] at hok
      have hc1 : wr.cell? ⟨g, k * 2, none⟩ = some (.slice A1 F.vs.length c1) := by
        rw [← World.ownsRow.cells hO (g := g) rfl _ _ hv1, cell_add]
      have hx1 := ho1.but hK (fun b hb ⟨i, y, hi, hy, hyb⟩ => hap.out i (k * 2) y _ hi hy hv1 b hyb hb)
      have hx2 := ho2.but hK (fun b hb ⟨i, y, hi, hy, hyb⟩ => hap.out i (k * 2 + 1) y _ (by omega) hy hv2 b hyb hb)
      have hM1 := Lib.hid (markIntS_any A1 F.vs.length c1 (m + offs (rowsF Fs) (k * 2)) wr (iown_wr' hx1) (by omega) (by omega) (by omega))
      have hX2 := Lib.hid hx2
      have hV1 := Lib.hid hv1
      have hV2 := Lib.hid hv2
      have hR1 := Lib.hid r1
      have hR2 := Lib.hid r2
      have hne := Lib.hid (fun b (hb : (Value.slice A1 F.vs.length c1).ownBlock = some b) => hap.out (k * 2) (k * 2 + 1) _ _ (by omega) hv1 hv2 b hb)
      clear hx1 hx2 hK hO hv1 hv2 r1 r2
      go_wp2_with fail
      refine (hM1.out).mono ?_
      rintro e w5 ⟨rfl, ho5, hi5⟩
      have hK5 : KeptBut wr w5 (fun b => A1.map (·.block) = some b) := KeptBut.of_grown ho5 (fun k e => e)
      have hK5w := Lib.hid (show KeptBut w w5 (RowB vs (k * 2 + 1)) from KeptBut.trans (hKh.out.mono (fun b _ ⟨i, x, hi, hx⟩ => ⟨i, x, by omega, hx⟩)) hK5 (fun b _ hb => ⟨k * 2, _, Nat.lt_succ_self _, hV1.out, by rw [own_map]; exact hb⟩))
      have hO5 := houter.out w5 _ hK5w.out
      have hc2 : w5.cell? ⟨g, k * 2 + 1, none⟩ = some (.slice A2 F.ns.length c2) := by
        rw [← World.ownsRow.cells hO5 (g := g) rfl _ _ hV2.out, cell_add]
      have hx2 := hX2.out.but hK5 (fun b hb e => hne.out b (by rw [own_map]; exact e) hb)
      have hM2 := Lib.hid (markIntS_any A2 F.ns.length c2 (m + offs (rowsF Fs) (k * 2) + F.vs.length) w5 (iown_wr' hx2) (by omega) (by omega) (by omega))
      have hi5h := Lib.hid hi5
      have hMh5 := Lib.hid (show ∀ (j : Nat) (es : List Int), j < k * 2 → (rowsF Fs)[j]? = some es → ∃ Ay cy, vs[j]? = some (.slice Ay es.length cy) ∧ Ils w5 w5.heap.size Ay es.length (nums (m + offs (rowsF Fs) j) es.length) from fun j es hj hes => by
        obtain ⟨Ay, cy, hy, hil⟩ := hMh.out j es hj hes
        exact ⟨Ay, cy, hy, ils_but hil hK5 (fun b hb hb2 => hap.out j (k * 2) _ _ hj hy hV1.out b (by rw [own_map]; exact hb) (by rw [own_map]; exact hb2))⟩)
      have hc1w := hc1
      clear hO5 hx2 ho5 hi5 hK5 hc1w hc1
      go_wp2_with fail
      refine (hM2.out).mono ?_
      rintro e w6 ⟨rfl, ho6, hi6⟩
      have hK6 : KeptBut w5 w6 (fun b => A2.map (·.block) = some b) := KeptBut.of_grown ho6 (fun k e => e)
      have hrel6 := Lib.hid (show KeptBut w w6 (RowB vs ((k + 1) * 2)) ∧ ∀ (j : Nat) (es : List Int), j < (k + 1) * 2 → (rowsF Fs)[j]? = some es → ∃ Ay cy, vs[j]? = some (.slice Ay es.length cy) ∧ Ils w6 w6.heap.size Ay es.length (nums (m + offs (rowsF Fs) j) es.length) from by
        refine ⟨KeptBut.trans (hK5w.out.mono (fun b _ ⟨i, x, hi, hx⟩ => ⟨i, x, by omega, hx⟩)) hK6 (fun b _ hb => ⟨k * 2 + 1, _, by omega, hV2.out, by rw [own_map]; exact hb⟩), fun j es hj hes => ?_⟩
        by_cases hj2 : j = k * 2 + 1
        · subst hj2
          obtain rfl : F.ns = es := Option.some.inj (hR2.out.symm.trans hes)
          refine ⟨A2, c2, hV2.out, ?_⟩
          rw [of1]
          have e : m + ((offs (rowsF Fs) (k * 2) + F.vs.length : Nat) : Int) = m + offs (rowsF Fs) (k * 2) + F.vs.length := by omega
          rw [e]
          exact hi6
        · by_cases hj1 : j = k * 2
          · subst hj1
            obtain rfl : F.vs = es := Option.some.inj (hR1.out.symm.trans hes)
            exact ⟨A1, c1, hV1.out, ils_but hi5h.out hK6 (fun b hb hb2 => hne.out b (by rw [own_map]; exact hb) (by rw [own_map]; exact hb2))⟩
          · obtain ⟨Ay, cy, hy, hil⟩ := hMh5.out j es (by omega) hes
            exact ⟨Ay, cy, hy, ils_but hil hK6 (fun b hb hb2 => hap.out j (k * 2 + 1) _ _ (by omega) hy hV2.out b (by rw [own_map]; exact hb) (by rw [own_map]; exact hb2))⟩)
      clear ho6 hi6 hK6
      go_wp2_with fail
      go_roundg (n - (k + 1))
      case measure => omega
      case rel => exact ⟨k + 1, by omega, rfl, by go_num, congrArg (Value.int .i64) (by rw [of2]; omega), hrel6.out.1, hrel6.out.2⟩
    · obtain rfl : k = n := by omega
      have hF := Lib.hid (show MkdF wr base A k c Fs vs m from ⟨hO, fun i ds hds => hMh.out i ds (by have := (List.getElem?_eq_some_iff.1 hds).1; rw [rowsF_len] at this; omega) hds⟩)
      clear hO hK
      go_wp2_with fail
      go_ret
      exact ⟨rfl, hF.out, hKh.out⟩
end Go.Proofs.Ytdpeaabdpolmoaa
namespace Go.Proofs.Ytdpeaabdpolmoaa
set_option maxRecDepth 100000
set_option linter.unusedVariables false
open Go.RowKit
theorem offs_offF {Fs : List Fac} : ∀ {k : Nat}, k ≤ Fs.length → offs (rowsF Fs) (k * 2) = offF Fs k
  | 0, _ => by simp [offs_zero, offF]
  | k + 1, h => by
    have hF := List.getElem?_eq_getElem (l := Fs) (i := k) (by omega)
    rw [(offs_two hF).2, offs_offF (by omega), offF_succ hF]
    omega
theorem markG_pl (A : Option Addr) (n c lo hi : Nat) (m : Int) (Fs : List Fac) (vs : List Value) (w : World) (h : Pl (RsFB lo hi (.slice A n c) Fs vs) lo hi w) (ha : Apart vs) (hL : Fs.length = n) (hm : 0 ≤ m) (hm2 : m ≤ 1000000000) (hn : n ≤ 1048576) (ht : offs (rowsF Fs) (n * 2) ≤ 10000000) :
    Calls Try.prog 23 #[.slice A n c, .int .i64 m] w fun e w' => e = .returned (.int .i64 (m + offs (rowsF Fs) (n * 2))) ∧ KeptBut w w' (fun k => lo ≤ k ∧ k < hi) ∧ Pl (MkFB lo hi A n c Fs vs m) lo hi w' := by
  refine (markFactorS_any A n c lo Fs vs m w h.1.1 ha hL hm hm2 hn ht).mono ?_
  rintro e w1 ⟨rfl, hk, hb⟩
  exact ⟨rfl, hb.mono (fun k _ ⟨i, x, _, hx, hxk⟩ => h.1.2.2 x (List.mem_of_getElem? hx) k hxk), MkFB.pl hk h.1.2.1 h.1.2.2 (Nat.le_trans h.2.1 hb.size)⟩
end Go.Proofs.Ytdpeaabdpolmoaa

namespace Go.Proofs.Ytdpeaabdpolmoaa
set_option maxRecDepth 100000
set_option linter.unusedVariables false
/-- Graphs of the four variables: the pairs 01 02 03 12 13 23. -/
structure Gr where
  a : Bool
  b : Bool
  c : Bool
  d : Bool
  e : Bool
  f : Bool
def Gr.nb (g : Gr) : Nat → Nat
  | 0 => 1 + 2 * g.a.toNat + 4 * g.b.toNat + 8 * g.c.toNat
  | 1 => g.a.toNat + 2 + 4 * g.d.toNat + 8 * g.e.toNat
  | 2 => g.b.toNat + 2 * g.d.toNat + 4 + 8 * g.f.toNat
  | _ => g.c.toNat + 2 * g.e.toNat + 4 * g.f.toNat + 8
def grOf (N : Nat → Nat) : Gr := ⟨(N 0).testBit 1, (N 0).testBit 2, (N 0).testBit 3, (N 1).testBit 2, (N 1).testBit 3, (N 2).testBit 3⟩
/-- A graph without a variable. -/
def Gr.el (g : Gr) (v : Nat) : Gr := grOf fun u => if u = v then 2 ^ v else if (g.nb v).testBit u then (g.nb u ||| g.nb v) &&& (15 - 2 ^ v) else g.nb u
def cntN (L : Nat) : Nat := (L % 2 + L / 2 % 2) + (L / 4 % 2 + L / 8 % 2)
def Gr.w1 (g : Gr) (v : Nat) : Nat := cntN (g.nb v)
def Gr.stepJ (g : Gr) (T J : Nat) : Nat := (List.range 4).foldl (fun R u => if J.testBit u && T.testBit u then R ||| g.nb u else R) J
def Gr.cl (g : Gr) (T v : Nat) : Nat := g.stepJ T (g.stepJ T (g.stepJ T (2 ^ v)))
/-- How many variables the product has by which one is eliminated when others are gone. -/
def Gr.wP (g : Gr) (gone v : Nat) : Nat := cntN (g.cl (gone ||| 2 ^ v) v &&& (15 - gone))
def Gr.elS (g : Gr) (p : List Nat) : Gr := p.foldl Gr.el g
def maskN (p : List Nat) : Nat := p.foldl (fun m v => m ||| 2 ^ v) 0
def Gr.nxt (g : Gr) (least : List Nat) (gone : Nat) : Nat → Nat × Nat
  | 0 => (0, 5)
  | v + 1 => if gone.testBit v then g.nxt least gone v else if max (max (g.wP gone v) (least.getD (gone ||| 2 ^ v) 0)) (least.getD 0 0) < (g.nxt least gone v).2 then (v, max (max (g.wP gone v) (least.getD (gone ||| 2 ^ v) 0)) (least.getD 0 0)) else g.nxt least gone v
def zN (n : Nat) : List Nat := List.replicate n 0
def Gr.lst (g : Gr) : Nat → List Nat
  | 0 => zN 16
  | k + 1 => (g.lst k).set (14 - k) (g.nxt (g.lst k) (14 - k) 4).2
def Gr.ord (g : Gr) (least : List Nat) : Nat → List Nat
  | 0 => []
  | k + 1 => g.ord least k ++ [(g.nxt least (maskN (g.ord least k)) 4).1]
def Gr.greedy (g : Gr) : List Nat := g.ord (zN 16) 4
/-- The model's greedy choice among the first variables: 4 is none yet. -/
def Gr.pickM (g : Gr) (out : List Nat) : Nat → Nat
  | 0 => 4
  | v + 1 => if !out.contains v && (g.pickM out v == 4 || decide (g.w1 v < g.w1 (g.pickM out v))) then v else g.pickM out v
def Gr.gm (g : Gr) : Nat → List Nat
  | 0 => []
  | k + 1 => g.gm k ++ [(g.elS (g.gm k)).pickM (g.gm k) 4]
theorem gr_all {P : Gr → Prop} (h : ∀ a b c d e f : Bool, P ⟨a, b, c, d, e, f⟩) (g : Gr) : P g := by
  obtain ⟨a, b, c, d, e, f⟩ := g
  exact h a b c d e f
end Go.Proofs.Ytdpeaabdpolmoaa

namespace Go.Proofs.Ytdpeaabdpolmoaa
set_option maxRecDepth 100000
set_option linter.unusedVariables false
open Go.RowKit
/-- The greatest number of a factor, or 1. -/
def mB (F : Fac) : Int := F.ns.foldl max 1
def pb (Fs : List Fac) : Int := Fs.foldr (fun F k => mB F * k) 1
end Go.Proofs.Ytdpeaabdpolmoaa

namespace Go.Proofs.Ytdpeaabdpolmoaa
set_option maxRecDepth 100000
set_option linter.unusedVariables false
open Go.RowKit
/-- The cells of widths. -/
def ArrN (cs : Array Value) (ls : List Nat) : Prop := cs.size = 16 ∧ ∀ q : Nat, q < 16 → cs[q]? = some (.int .i64 ((ls.getD q 0 : Nat) : Int))
theorem ArrN.one {cs : Array Value} {ls : List Nat} (h : ArrN cs ls) : cs.all (·.oneCell') = true := by
  refine Array.all_eq_true_iff_forall_mem.2 fun u hu => ?_
  obtain ⟨i, hi, rfl⟩ := Array.mem_iff_getElem.1 hu
  have h2 := h.2 i (by rw [← h.1]; exact hi)
  rw [Array.getElem?_eq_getElem hi] at h2
  rw [Option.some.inj h2]; rfl
theorem ArrN.put {cs : Array Value} {ls : List Nat} (h : ArrN cs ls) (hl : ls.length = 16) {q : Nat} (hq : q < 16) (x : Nat) : ArrN (cs.setIfInBounds q (.int .i64 (x : Int))) (ls.set q x) := by
  refine ⟨by simpa using h.1, fun j hj => ?_⟩
  by_cases hjq : q = j
  · subst hjq
    rw [Array.getElem?_setIfInBounds, if_pos rfl, if_pos (by rw [h.1]; exact hq), List.getD_eq_getElem?_getD, List.getElem?_set_self (by omega)]
    rfl
  · rw [Array.getElem?_setIfInBounds, if_neg hjq, h.2 j hj, List.getD_eq_getElem?_getD, List.getD_eq_getElem?_getD, List.getElem?_set_ne hjq]
theorem ArrN.zero : ArrN (List.toArray (List.replicate 16 (.int .i64 0))) (zN 16) := by
  refine ⟨by simp, fun q hq => ?_⟩
  have : (zN 16).getD q 0 = 0 := by
    unfold zN
    rw [List.getD_eq_getElem?_getD, List.getElem?_replicate]
    split <;> rfl
  rw [this, List.getElem?_toArray, List.getElem?_replicate, if_pos hq]
  rfl
/-- Cells written in the midst of a block. -/
theorem has_setCells_ {g : Nat} {t : TypeId} : ∀ (vs : List Value) (o : Nat) (w : World) (cs : Array Value), Has w g t cs → o + vs.length ≤ cs.size →
    ∃ cs', Has (w.setCells g o vs) g t cs' ∧ cs'.size = cs.size ∧ (∀ j v, vs[j]? = some v → cs'[o + j]? = some v) ∧ ∀ i, (i < o ∨ o + vs.length ≤ i) → cs'[i]? = cs[i]?
  | [], o, w, cs, h, hl => ⟨cs, h, rfl, fun j v hv => by simp at hv, fun i _ => rfl⟩
  | u :: vs, o, w, cs, h, hl => by
    rw [List.length_cons] at hl
    obtain ⟨cs', h1, h2, h3, h4⟩ := has_setCells_ vs (o + 1) (w.setCell ⟨g, o, none⟩ u) (cs.setIfInBounds o u) (h.put o u) (by simp; omega)
    refine ⟨cs', h1, by rw [h2]; simp, fun j v hv => ?_, fun i hi => ?_⟩
    · cases j with
      | zero =>
        have e : u = v := by simpa using hv
        subst e
        rw [Nat.add_zero, h4 o (by omega), Array.getElem?_setIfInBounds, if_pos rfl, if_pos (by omega)]
      | succ j =>
        have := h3 j v (by simpa using hv)
        rwa [show o + (j + 1) = o + 1 + j by omega]
    · rw [List.length_cons] at hi
      rw [h4 i (by omega), Array.getElem?_setIfInBounds, if_neg (by omega)]
theorem has_there_ {w : World} {g : Nat} {t : TypeId} {cs : Array Value} (h : Has w g t cs) {o n : Nat} (hn : o + n ≤ cs.size) : w.there g o n := fun j hj => by
  refine ⟨?_, h.frozen _⟩
  rw [h.cell, Array.getElem?_eq_getElem (by omega)]; rfl
theorem has_range_ {w : World} {g : Nat} {t : TypeId} {cs : Array Value} (h : Has w g t cs) {o : Nat} {vs : List Value} (hv : ∀ j v, vs[j]? = some v → cs[o + j]? = some v) : w.rangeAt g o vs := fun j v hj => (h.cell _).trans (hv j v hj)
theorem results_cell_ {fn : Func} {p : Tmp} {ty : TypeId} (h : fn.results = #[.cell p ty]) (tmps : Array Value) (P : Program) (w : World) :
    (results fn tmps).run P w = ((asAddr (tmps.getD p undef)).run P w).andThen fun a w₁ => (loadVar ty a).run P w₁ := by
  simp only [results, h]
  simp [Sem.run_bind, Result.andThen]
end Go.Proofs.Ytdpeaabdpolmoaa

namespace Go.Proofs.Ytdpeaabdpolmoaa
set_option maxRecDepth 100000
set_option linter.unusedVariables false
open Go.RowKit
/-- Sums over some values of a variable. -/
def sv (F : Fac) (v st : Int) (a : Nat) : Nat → Int
  | 0 => 0
  | m + 1 => sv F v st a m + fAt F (withValue st v ((a + m : Nat) : Int))
end Go.Proofs.Ytdpeaabdpolmoaa

namespace Go.Proofs.Ytdpeaabdpolmoaa
set_option maxRecDepth 100000
set_option linter.unusedVariables false
open Go.RowKit
theorem FcV.below {w w' : World} {base : Nat} {v1 v2 : Value} {F : Fac} (h : FcV w base v1 v2 F) (hb : Below w.heap.size w w') : FcV w' base v1 v2 F := ⟨h.1.below hb, h.2.1.below hb, h.2.2⟩
theorem FcV.none_ (w : World) (base : Nat) : FcV w base (.slice none 0 0) (.slice none 0 0) ⟨[], []⟩ := ⟨IOwn.nil _ _, IOwn.nil _ _, fun b h => by cases h⟩
theorem FcV.fac {w : World} {base n1 c1 n2 c2 : Nat} {A1 A2 : Option Addr} {F : Fac} (h : FcV w base (.slice A1 n1 c1) (.slice A2 n2 c2) F) : FacW w w.heap.size A1 n1 A2 n2 F := ⟨h.1.lst, h.2.1.lst⟩
end Go.Proofs.Ytdpeaabdpolmoaa

namespace Go.Proofs.Ytdpeaabdpolmoaa
set_option maxRecDepth 100000
set_option linter.unusedVariables false
open Go.RowKit
/-- Behind an append of one factor. -/
theorem RowsF.append_ {w w' : World} {base : Nat} {v v' u1 u2 : Value} {Fs : List Fac} {vs : List Value} {F : Fac} (h : RowsF w base v Fs vs) (hx : FcV w base u1 u2 F)
    (hN : w'.ownsRow base 44 2 v' (Fs.length + 1) (vs ++ [u1, u2])) (hg : w.grownBy w' v.ownBlock) : RowsF w' base v' (Fs ++ [F]) (vs ++ [u1, u2]) := by
  have hk : KeptBut w w' (fun i => v.ownBlock = some i) := KeptBut.of_grown hg fun k e => e
  have hrow : ∀ y es, IOwn w base y es → IOwn w' base y es := fun y es hy => hy.but hk fun k hkb e => by
    obtain ⟨c1, h1⟩ := owns_has hy hkb
    obtain ⟨c2, h2⟩ := owns_has h.1 e
    exact has_ne h1 h2 fac_ne_int rfl
  have hrf : rowsF (Fs ++ [F]) = rowsF Fs ++ [F.vs, F.ns] := by unfold rowsF; rw [List.flatMap_append]; rfl
  have hrl := rowsF_len Fs
  have hvl := h.length
  refine ⟨by rw [List.length_append]; exact hN, fun i y hy => ?_⟩
  rw [hrf]
  by_cases hi : i < vs.length
  · rw [List.getElem?_append_left hi] at hy
    obtain ⟨es, he, ho⟩ := h.2 i y hy
    exact ⟨es, by rw [List.getElem?_append_left (by omega)]; exact he, hrow y es ho⟩
  · rw [List.getElem?_append_right (by omega)] at hy
    rw [List.getElem?_append_right (by omega), hrl, ← hvl]
    have hi2 := (List.getElem?_eq_some_iff.1 hy).1
    simp at hi2
    obtain h0 | h0 : i - vs.length = 0 ∨ i - vs.length = 1 := by omega
    · rw [h0] at hy ⊢
      have hy' : u1 = y := by simpa using hy
      subst hy'
      exact ⟨F.vs, rfl, hrow _ _ hx.1⟩
    · rw [h0] at hy ⊢
      have hy' : u2 = y := by simpa using hy
      subst hy'
      exact ⟨F.ns, rfl, hrow _ _ hx.2.1⟩
theorem RowsF.blk {w : World} {base : Nat} {v : Value} {Fs : List Fac} {vs : List Value} (h : RowsF w base v Fs vs) : ∀ y ∈ vs, ∀ k, y.ownBlock = some k → k < w.heap.size := fun y hy k hk => by
  obtain ⟨i, hi, rfl⟩ := List.getElem_of_mem hy
  obtain ⟨ds, _, ho⟩ := h.2 i _ (List.getElem?_eq_getElem hi)
  exact (World.ownsRow.lt ho k hk).2
end Go.Proofs.Ytdpeaabdpolmoaa

namespace Go.Proofs.Ytdpeaabdpolmoaa
set_option maxRecDepth 100000
set_option linter.unusedVariables false
open Go.RowKit
/-- Inner rows of factors. -/
def InnF (w : World) (base : Nat) (Fs : List Fac) (us : List Value) : Prop := us.length = Fs.length * 2 ∧ ∀ (i : Nat) (x : Value), us[i]? = some x → ∃ ds, (rowsF Fs)[i]? = some ds ∧ IOwn w base x ds
theorem InnF.nil (w : World) (base : Nat) : InnF w base [] [] := ⟨rfl, fun i x h => by simp at h⟩
theorem InnF.but {w w' : World} {base : Nat} {Fs : List Fac} {us : List Value} {S : Nat → Prop} (h : InnF w base Fs us) (hk : KeptBut w w' S) (hS : ∀ k cur, Has w k 3 cur → base ≤ k → (∃ x ∈ us, x.ownBlock = some k) → ¬ S k) : InnF w' base Fs us := ⟨h.1, fun i x hx => by
  obtain ⟨ds, hd, ho⟩ := h.2 i x hx
  refine ⟨ds, hd, ho.but hk fun k hkb => ?_⟩
  obtain ⟨cur, hc⟩ := owns_has ho hkb
  exact hS k cur hc (World.ownsRow.lt ho k hkb).1 ⟨x, List.mem_of_getElem? hx, hkb⟩⟩
theorem InnF.below {w w' : World} {base : Nat} {Fs : List Fac} {us : List Value} (h : InnF w base Fs us) (hb : Below w.heap.size w w') : InnF w' base Fs us := h.but (KeptBut.of_below hb (fun _ => False)) (fun _ _ _ _ _ e => e)
theorem InnF.blk {w : World} {base : Nat} {Fs : List Fac} {us : List Value} (h : InnF w base Fs us) : ∀ y ∈ us, ∀ k, y.ownBlock = some k → k < w.heap.size := fun y hy k hk => by
  obtain ⟨i, hi, rfl⟩ := List.getElem_of_mem hy
  obtain ⟨ds, _, ho⟩ := h.2 i _ (List.getElem?_eq_getElem hi)
  exact (World.ownsRow.lt ho k hk).2
theorem InnF.snoc {w : World} {base : Nat} {Fs : List Fac} {us : List Value} {F : Fac} {x y : Value} (h : InnF w base Fs us) (hx : IOwn w base x F.vs) (hy : IOwn w base y F.ns) : InnF w base (Fs ++ [F]) (us ++ [x, y]) := by
  have hrf : rowsF (Fs ++ [F]) = rowsF Fs ++ [F.vs, F.ns] := by unfold rowsF; rw [List.flatMap_append]; rfl
  have hrl := rowsF_len Fs
  have hl := h.1
  refine ⟨by simp [hl]; omega, fun i z hz => ?_⟩
  rw [hrf]
  by_cases hi : i < us.length
  · rw [List.getElem?_append_left hi] at hz
    obtain ⟨ds, hd, ho⟩ := h.2 i z hz
    exact ⟨ds, by rw [List.getElem?_append_left (by omega)]; exact hd, ho⟩
  · rw [List.getElem?_append_right (by omega)] at hz
    rw [List.getElem?_append_right (by omega), hrl, ← hl]
    have hi2 := (List.getElem?_eq_some_iff.1 hz).1
    simp at hi2
    obtain h0 | h0 : i - us.length = 0 ∨ i - us.length = 1 := by omega
    · rw [h0] at hz ⊢
      have : x = z := by simpa using hz
      subst this
      exact ⟨F.vs, rfl, hx⟩
    · rw [h0] at hz ⊢
      have : y = z := by simpa using hz
      subst this
      exact ⟨F.ns, rfl, hy⟩
theorem InnF.at_ {w : World} {base k : Nat} {Fs : List Fac} {us : List Value} {F : Fac} (h : InnF w base Fs us) (hF : Fs[k]? = some F) : ∃ (A1 : Option Addr) (c1 : Nat) (A2 : Option Addr) (c2 : Nat), us[k * 2]? = some (.slice A1 F.vs.length c1) ∧ us[k * 2 + 1]? = some (.slice A2 F.ns.length c2) ∧ IOwn w base (.slice A1 F.vs.length c1) F.vs ∧ IOwn w base (.slice A2 F.ns.length c2) F.ns := by
  have hk := (List.getElem?_eq_some_iff.1 hF).1
  have hl := h.1
  obtain ⟨r1, r2⟩ := rowsF_get hF
  obtain ⟨x, hx⟩ : ∃ x, us[k * 2]? = some x := ⟨_, List.getElem?_eq_getElem (by omega)⟩
  obtain ⟨y, hy⟩ : ∃ y, us[k * 2 + 1]? = some y := ⟨_, List.getElem?_eq_getElem (by omega)⟩
  obtain ⟨ds, hds, hxo⟩ := h.2 _ x hx
  obtain ⟨es, hes, hyo⟩ := h.2 _ y hy
  obtain rfl : F.vs = ds := Option.some.inj (r1.symm.trans hds)
  obtain rfl : F.ns = es := Option.some.inj (r2.symm.trans hes)
  obtain ⟨A1, c1, rfl, _, _⟩ := IOwn.form hxo
  obtain ⟨A2, c2, rfl, _, _⟩ := IOwn.form hyo
  exact ⟨A1, c1, A2, c2, hx, hy, hxo, hyo⟩
theorem InnF.one {w : World} {base : Nat} {Fs : List Fac} {us : List Value} (h : InnF w base Fs us) : ∀ u ∈ us, u.oneCell' = true := fun u hu => by
  obtain ⟨i, hi, rfl⟩ := List.getElem_of_mem hu
  obtain ⟨ds, _, ho⟩ := h.2 i _ (List.getElem?_eq_getElem hi)
  obtain ⟨A, c, e, _, _⟩ := IOwn.form ho
  rw [e]; rfl
end Go.Proofs.Ytdpeaabdpolmoaa

namespace Go.Proofs.Ytdpeaabdpolmoaa
set_option maxRecDepth 100000
set_option linter.unusedVariables false
open Go.RowKit
/-- The variables next to one. -/
def Gr.nx (g : Gr) (v : Nat) : Nat := g.nb v - 2 ^ v
def Gr.put (g : Gr) (a b : Nat) : Gr := grOf fun u => g.nb u ||| ((if u = a then 2 ^ b else 0) ||| (if u = b then 2 ^ a else 0))
def Gr.none_ : Gr := ⟨false, false, false, false, false, false⟩
def Gr.root (g : Gr) (v : Nat) : Nat := ((List.range 4).find? fun u => (g.cl 15 v).testBit u).getD 0
def Gr.many (g : Gr) : Nat := (g.a.toNat + g.b.toNat + g.c.toNat) + (g.d.toNat + g.e.toNat + g.f.toNat)
/-- A graph without circles. -/
def Gr.acy (g : Gr) : Bool := g.many + ((List.range 4).filter fun v => g.root v == v).length == 4
/-- All pairs, either way round: a row of bits for each variable. -/
def Gr.prs (g : Gr) : Nat := (g.nx 0 + 16 * g.nx 1) + (256 * g.nx 2 + 4096 * g.nx 3)
def bitsN (L : Nat) : List Nat := (List.range 4).filter fun v => L.testBit v
/-- All ways from one over another end: no circle is gone round. -/
def Gr.dep (g : Gr) : Nat → Nat → Nat → Bool
  | 0, _, _ => false
  | n + 1, u, t => (bitsN (g.nx u)).all fun w => w == t || g.dep n w u
/-- The branches, as they are come to. -/
structure Brs where
  list : List (Nat × Nat)
  path : List Nat
  passed : Nat
def Gr.b0 (g : Gr) : Brs := ⟨[], (List.range 4).filter fun v => g.root v == v, 0⟩
def Gr.far (g : Gr) (s : Brs) (k : Nat) : List Nat := bitsN (g.nx (s.path.getD k 0) &&& (15 - (s.passed ||| 2 ^ s.path.getD k 0)))
def Gr.bstep (g : Gr) (s : Brs) (k : Nat) : Brs :=
  ⟨s.list ++ (g.far s k).map fun w => (s.path.getD k 0, w), s.path ++ g.far s k, s.passed ||| 2 ^ s.path.getD k 0⟩
def Gr.brs (g : Gr) : Nat → Brs
  | 0 => g.b0
  | k + 1 => g.bstep (g.brs k) k
/-- Who tells whom, one after another. -/
def Gr.tells (g : Gr) : List (Nat × Nat) := ((g.brs 4).list.reverse.map fun p => (p.2, p.1)) ++ (g.brs 4).list
/-- All that one needs is told ahead of it. -/
def Gr.tellOk (g : Gr) (k : Nat) : Bool :=
  match (g.tells)[k]? with
  | none => true
  | some (u, t) => (g.nx u).testBit t && (bitsN (g.nx u)).all fun w => w == t || (g.tells.take k).contains (w, u)
theorem put_acy (g : Gr) : ∀ a b : Fin 4, a ≠ b → g.acy = true → g.root a.val ≠ g.root b.val → (g.put a.val b.val).acy = true ∧ ∀ v : Fin 4, (g.put a.val b.val).root v.val = if g.root v.val = max (g.root a.val) (g.root b.val) then min (g.root a.val) (g.root b.val) else g.root v.val :=
  gr_all (P := fun g => ∀ a b : Fin 4, a ≠ b → g.acy = true → g.root a.val ≠ g.root b.val → (g.put a.val b.val).acy = true ∧ ∀ v : Fin 4, (g.put a.val b.val).root v.val = if g.root v.val = max (g.root a.val) (g.root b.val) then min (g.root a.val) (g.root b.val) else g.root v.val) (by decide +kernel) g
theorem put_nx (g : Gr) : ∀ a b : Fin 4, a ≠ b → ∀ v w : Fin 4, ((g.put a.val b.val).nx v.val).testBit w.val = ((g.nx v.val).testBit w.val || (decide (v = a ∧ w = b) || decide (v = b ∧ w = a))) :=
  gr_all (P := fun g => ∀ a b : Fin 4, a ≠ b → ∀ v w : Fin 4, ((g.put a.val b.val).nx v.val).testBit w.val = ((g.nx v.val).testBit w.val || (decide (v = a ∧ w = b) || decide (v = b ∧ w = a)))) (by decide +kernel) g
theorem prs_row (g : Gr) : ∀ v : Fin 4, g.prs < 65536 ∧ (g.prs / 2 ^ (4 * v.val)) % 16 = g.nx v.val ∧ g.nx v.val < 16 ∧ (g.nx v.val).testBit v.val = false ∧ ∀ w : Fin 4, (g.nx v.val).testBit w.val = (g.nx w.val).testBit v.val :=
  gr_all (P := fun g => ∀ v : Fin 4, g.prs < 65536 ∧ (g.prs / 2 ^ (4 * v.val)) % 16 = g.nx v.val ∧ g.nx v.val < 16 ∧ (g.nx v.val).testBit v.val = false ∧ ∀ w : Fin 4, (g.nx v.val).testBit w.val = (g.nx w.val).testBit v.val) (by decide +kernel) g
theorem root_le (g : Gr) : ∀ v : Fin 4, g.root v.val ≤ v.val ∧ g.root (g.root v.val) = g.root v.val :=
  gr_all (P := fun g => ∀ v : Fin 4, g.root v.val ≤ v.val ∧ g.root (g.root v.val) = g.root v.val) (by decide +kernel) g
theorem root_near (g : Gr) : ∀ v w : Fin 4, (g.nx v.val).testBit w.val = true → g.root v.val = g.root w.val :=
  gr_all (P := fun g => ∀ v w : Fin 4, (g.nx v.val).testBit w.val = true → g.root v.val = g.root w.val) (by decide +kernel) g
theorem dep_all (g : Gr) : g.acy = true → ∀ u t : Fin 4, (g.nx u.val).testBit t.val = true → g.dep 3 u.val t.val = true :=
  gr_all (P := fun g => g.acy = true → ∀ u t : Fin 4, (g.nx u.val).testBit t.val = true → g.dep 3 u.val t.val = true) (by decide +kernel) g
theorem brs_end (g : Gr) : g.acy = true → (∀ k : Fin 5, (g.brs k.val).path.length ≤ 4 ∧ (k.val < 4 → k.val < (g.brs k.val).path.length) ∧ (g.brs k.val).list.length ≤ 3) ∧ (g.brs 4).path.length = 4 :=
  gr_all (P := fun g => g.acy = true → (∀ k : Fin 5, (g.brs k.val).path.length ≤ 4 ∧ (k.val < 4 → k.val < (g.brs k.val).path.length) ∧ (g.brs k.val).list.length ≤ 3) ∧ (g.brs 4).path.length = 4) (by decide +kernel) g
theorem tells_ok (g : Gr) : g.acy = true → (∀ k : Fin 6, g.tellOk k.val = true) ∧ g.tells.length ≤ 6 ∧ ∀ u t : Fin 4, (g.nx u.val).testBit t.val = true → (u.val, t.val) ∈ g.tells :=
  gr_all (P := fun g => g.acy = true → (∀ k : Fin 6, g.tellOk k.val = true) ∧ g.tells.length ≤ 6 ∧ ∀ u t : Fin 4, (g.nx u.val).testBit t.val = true → (u.val, t.val) ∈ g.tells) (by decide +kernel) g
theorem none_ok : Gr.none_.acy = true ∧ Gr.none_.prs = 0 ∧ ∀ v : Fin 4, Gr.none_.root v.val = v.val ∧ Gr.none_.nx v.val = 0 := by decide +kernel
end Go.Proofs.Ytdpeaabdpolmoaa
