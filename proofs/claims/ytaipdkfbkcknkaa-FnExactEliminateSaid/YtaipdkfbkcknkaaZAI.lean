/- Parts of the proof: Gj, Gk, K0, K1. -/
import Derived.Test.YtaipdkfbkcknkaaZAH
import Derived.Test.YtaipdkfbkcknkaaZAC
namespace Go.Proofs.Ytaipdkfbkcknkaa
set_option maxRecDepth 100000
set_option linter.unusedVariables false
open Go.RowKit
/-- Factors, and where they lie. -/
def RsFB (lo hi : Nat) (v : Value) (Fs : List Fac) (vs : List Value) (w : World) : Prop := RowsF w lo v Fs vs ∧ (∀ k, v.ownBlock = some k → k < hi) ∧ ∀ x ∈ vs, ∀ k, x.ownBlock = some k → lo ≤ k ∧ k < hi
theorem RsFB.pl {w : World} {base : Nat} {v : Value} {Fs : List Fac} {vs : List Value} (h : RowsF w base v Fs vs) : Pl (RsFB base w.heap.size v Fs vs) base w.heap.size w := by
  refine ⟨⟨h, fun k hk => (World.ownsRow.lt h.1 k hk).2, fun x hx k hk => ?_⟩, Nat.le_refl _, fun a b ha _ _ hab => ⟨⟨⟨ha.1.1.1, ?_⟩, fun i x hx => ?_⟩, ha.2⟩⟩
  · obtain ⟨i, hi, hie⟩ := List.getElem_of_mem hx
    obtain ⟨ds, _, ho⟩ := h.2 i x (by rw [List.getElem?_eq_getElem hi, hie])
    exact World.ownsRow.lt ho k hk
  · rcases ha.1.1.2 with h0 | ⟨g, cap, cur, hv, hg, hh, rest⟩
    · exact .inl h0
    · exact .inr ⟨g, cap, cur, hv, hg, (hab g hg (ha.2.1 g (by rw [hv]; rfl))).trans hh, rest⟩
  · obtain ⟨ds, hds, ho⟩ := ha.1.2 i x hx
    refine ⟨ds, hds, ho.1, ?_⟩
    rcases ho.2 with h0 | ⟨g, cap, cur, hv, hg, hh, rest⟩
    · exact .inl h0
    · exact .inr ⟨g, cap, cur, hv, hg, (hab g hg (ha.2.2 x (List.mem_of_getElem? hx) g (by rw [hv]; rfl)).2).trans hh, rest⟩
theorem info_fac : (Try.prog.info? 36).map (fun i => (i.zero, i.size, i.bytes)) = some (some (.agg #[.slice none 0 0, .slice none 0 0]), 2, 48) := by kernel_rfl
set_option maxHeartbeats 2000000 in
theorem toFactorS_own (A : Option Addr) (n c : Nat) (Fs : List Fac) (w : World) (h : FLst w w.heap.size A n Fs) (hs : ∀ F ∈ Fs, F.vs.length ≤ 1048576 ∧ F.ns.length ≤ 1048576) (hn : n ≤ 1048576) :
    Calls Try.prog 21 #[.slice A n c] w fun e w' => ∃ g vs, e = .returned (.slice (some ⟨g, 0, none⟩) n n) ∧ Pl (RsFB w.heap.size w'.heap.size (.slice (some ⟨g, 0, none⟩) n n) Fs vs) w.heap.size w'.heap.size w' ∧ Apart vs ∧ Below w.heap.size w w' := by
  have hH := Lib.hid h
  have hL := Lib.hid h.1
  have hSm := Lib.hid hs
  clear h hs
  obtain ⟨i0, hi0, hz0, hz1', hz2'⟩ := info_parts info_fac
  have hmk : ∀ wx : World, (Instr.makeSlice 28 (.int .i64 (n : Int)) (.int .i64 (n : Int))).run Try.prog wx = .ok (.slice (some ⟨wx.heap.size, 0, none⟩) n n) (wx.alloc (.cells (madeCells (Value.agg #[.slice none 0 0, .slice none 0 0]).cells (n * 2)) 36)) := by
    intro wx
    have hr := run_make (P := Try.prog) wx 28 36 i0 _ Try.underlying28 hi0 hz0 .i64 .i64 (n : Int) (n : Int) (by omega) (by omega) (by rw [hz2']; omega) (by omega)
    rw [hz1'] at hr
    simp only [Int.toNat_natCast] at hr
    exact hr
  go_enter Try.func21, Try.ntmps21
  go_wp2_with fail
  have hhas0 := Has.new w 36 (madeCells #[.slice none 0 0, .slice none 0 0] (n * 2))
  have hsz0 : (madeCells #[Value.slice none 0 0, Value.slice none 0 0] (n * 2)).size = n * 2 := size_madeCells _ _
  have hb0 : Below w.heap.size w (w.alloc (.cells (madeCells #[.slice none 0 0, .slice none 0 0] (n * 2)) 36)) := (Below.refl _ _).alloc (Nat.le_refl _) _
  have hH0 := Lib.hid hhas0
  have hB0 := Lib.hid hb0
  clear hhas0 hmk hb0
  generalize madeCells #[Value.slice none 0 0, Value.slice none 0 0] (n * 2) = cs0 at hH0 hB0 hsz0 ⊢
  generalize w.alloc (.cells cs0 36) = w0 at hH0 hB0 ⊢
  go_loopg [4] n (fun gn v wr => ∃ (k : Nat) (cs : Array Value) (vs : List Value), k ≤ n ∧ gn = n - k ∧ v = .int .i64 k ∧ Has wr w.heap.size 36 cs ∧ cs.size = n * 2 ∧ vs.length = k * 2 ∧ (∀ (i : Nat) (x : Value), vs[i]? = some x → cs[i]? = some x) ∧ (∀ (i : Nat) (x : Value), vs[i]? = some x → ∃ ds, (rowsF Fs)[i]? = some ds ∧ IOwn wr w.heap.size x ds) ∧ Apart vs ∧ Below w.heap.size w wr)
  case atStart => exact ⟨0, cs0, [], Nat.zero_le _, rfl, rfl, hH0.out, hsz0, rfl, fun i x hx => by simp at hx, fun i x hx => by simp at hx, Apart.nil, hB0.out⟩
  case round =>
    obtain ⟨k, cs, vs, hk, hgn, rfl, hhas, hcs, hvl, hfill, hrow, hap, hb⟩ := hrel
    have hgk : gk = n - k := hgn
    have hHas := Lib.hid hhas
    have hFill := Lib.hid hfill
    have hRow := Lib.hid hrow
    have hAp := Lib.hid hap
    have hBh := Lib.hid hb
    have hzz := hhas.lt
    clear hgn hhas hfill hrow hap
    by_cases hlt : k < n
    · obtain ⟨gl, off, F, B1, m1, e1, B2, m2, e2, rfl, hgl, hFk, cl1, cl2, hFW⟩ := (hH.out.below hb).at_ hlt
      have hk0 : (0 : Int) ≤ (k : Int) := by omega
      have hk1 : (k : Int) < (n : Int) := by omega
      obtain ⟨hb1, hb2⟩ := hSm.out F (List.mem_of_getElem? hFk)
      have hl1 := hFW.1.1
      have hl2 := hFW.2.1
      have cT := Lib.hid (toFactor_own B1 B2 m1 e1 m2 e2 F wr (hFW.more hb.size) (by omega) (by omega))
      have hR := Lib.hid (rowsF_get hFk)
      clear hFW hFk hb
      go_wp2_with fail
      clear cl1 cl2
      refine cT.out.mono ?_
      rintro e w1 ⟨g1, g2, rfl, pl, hne, hb3⟩
      have hB1 := Lib.hid (hBh.out.trans (hb3.mono hBh.out.size))
      have hHas1 := hHas.out.kept hb3
      have hO1 : IOwn w1 wr.heap.size (.slice (some ⟨g1, 0, none⟩) m1 m1) F.vs := by
        have h1 := pl.1.1.1
        unfold IOwn
        rwa [hl1]
      have hO2 : IOwn w1 wr.heap.size (.slice (some ⟨g2, 0, none⟩) m2 m2) F.ns := by
        have h1 := pl.1.2.1
        unfold IOwn
        rwa [hl2]
      have hlo1 := (World.ownsRow.lt hO1 g1 rfl).1
      have hlo2 := (World.ownsRow.lt hO2 g2 rfl).1
      have hold := Lib.hid (fun (i : Nat) (x : Value) (hx : vs[i]? = some x) (b : Nat) (hb : x.ownBlock = some b) => show b < wr.heap.size from by
        obtain ⟨ds, _, ho⟩ := hRow.out i x hx
        obtain ⟨c1, h1⟩ := owns_has ho hb
        exact h1.lt)
      have hkp : KeptBut w1 ((w1.setCell ⟨w.heap.size, k * 2, none⟩ (.slice (some ⟨g1, 0, none⟩) m1 m1)).setCell ⟨w.heap.size, k * 2 + 1, none⟩ (.slice (some ⟨g2, 0, none⟩) m2 m2)) (fun i => i = w.heap.size) := ((KeptBut.refl w1 (fun i => i = w.heap.size)).put (p := ⟨w.heap.size, k * 2, none⟩) (fun _ => rfl) _).put (p := ⟨w.heap.size, k * 2 + 1, none⟩) (fun _ => rfl) _
      have hNrow := Lib.hid (show ∀ (i : Nat) (x : Value), (vs ++ [.slice (some ⟨g1, 0, none⟩) m1 m1] ++ [.slice (some ⟨g2, 0, none⟩) m2 m2])[i]? = some x → ∃ ds, (rowsF Fs)[i]? = some ds ∧ IOwn ((w1.setCell ⟨w.heap.size, k * 2, none⟩ (.slice (some ⟨g1, 0, none⟩) m1 m1)).setCell ⟨w.heap.size, k * 2 + 1, none⟩ (.slice (some ⟨g2, 0, none⟩) m2 m2)) w.heap.size x ds from fun i x hx => by
        have hil := (List.getElem?_eq_some_iff.1 hx).1
        simp at hil
        by_cases h1 : i < vs.length
        · rw [List.getElem?_append_left (by simp; omega), List.getElem?_append_left h1] at hx
          obtain ⟨ds, hd, ho⟩ := hRow.out i x hx
          have ho1 := ho.below hb3
          exact ⟨ds, hd, ho1.but hkp (fun b e1 e2 => iown_ne ho1 hHas1 (by decide) b e1 e2)⟩
        · by_cases h2 : i = vs.length
          · rw [List.getElem?_append_left (by simp; omega), List.getElem?_append_right (by omega), h2, Nat.sub_self] at hx
            have hx' : Value.slice (some ⟨g1, 0, none⟩) m1 m1 = x := by simpa using hx
            subst hx'
            exact ⟨F.vs, by rw [h2, hvl]; exact hR.out.1, owns_le (hO1.but hkp (fun b e1 e2 => iown_ne hO1 hHas1 (by decide) b e1 e2)) hBh.out.size⟩
          · rw [List.getElem?_append_right (by simp; omega)] at hx
            have h3 : i - (vs ++ [Value.slice (some ⟨g1, 0, none⟩) m1 m1]).length = 0 := by simp; omega
            rw [h3] at hx
            have hx' : Value.slice (some ⟨g2, 0, none⟩) m2 m2 = x := by simpa using hx
            subst hx'
            have h4 : i = k * 2 + 1 := by omega
            exact ⟨F.ns, by rw [h4]; exact hR.out.2, owns_le (hO2.but hkp (fun b e1 e2 => iown_ne hO2 hHas1 (by decide) b e1 e2)) hBh.out.size⟩)
      have hNap := Lib.hid (show Apart (vs ++ [.slice (some ⟨g1, 0, none⟩) m1 m1] ++ [.slice (some ⟨g2, 0, none⟩) m2 m2]) from by
        refine (hAp.out.snoc fun y hy b hb e => ?_).snoc fun y hy b hb e => ?_
        · obtain ⟨i, hi, rfl⟩ := List.getElem_of_mem hy
          have h1 := hold.out i _ (List.getElem?_eq_getElem hi) b hb
          have h2 : g1 = b := by simpa [Value.ownBlock] using e
          omega
        · have h2 : g2 = b := by simpa [Value.ownBlock] using e
          rcases List.mem_append.1 hy with hy | hy
          · obtain ⟨i, hi, rfl⟩ := List.getElem_of_mem hy
            have h1 := hold.out i _ (List.getElem?_eq_getElem hi) b hb
            omega
          · have hy' : y = .slice (some ⟨g1, 0, none⟩) m1 m1 := by simpa using hy
            subst hy'
            have h3 : g1 = b := by simpa [Value.ownBlock] using hb
            omega)
      have hNh := Lib.hid ((hHas1.put (k * 2) (.slice (some ⟨g1, 0, none⟩) m1 m1)).put (k * 2 + 1) (.slice (some ⟨g2, 0, none⟩) m2 m2))
      have hNf := Lib.hid (show ∀ (i : Nat) (x : Value), (vs ++ [.slice (some ⟨g1, 0, none⟩) m1 m1] ++ [.slice (some ⟨g2, 0, none⟩) m2 m2])[i]? = some x → ((cs.setIfInBounds (k * 2) (.slice (some ⟨g1, 0, none⟩) m1 m1)).setIfInBounds (k * 2 + 1) (.slice (some ⟨g2, 0, none⟩) m2 m2))[i]? = some x from fun i x hx => by
        have hil := (List.getElem?_eq_some_iff.1 hx).1
        simp at hil
        by_cases h1 : i < vs.length
        · rw [List.getElem?_append_left (by simp; omega), List.getElem?_append_left h1] at hx
          rw [put_ne (by omega), put_ne (by omega)]
          exact hFill.out i x hx
        · by_cases h2 : i = vs.length
          · rw [List.getElem?_append_left (by simp; omega), List.getElem?_append_right (by omega), h2, Nat.sub_self] at hx
            have hx' : Value.slice (some ⟨g1, 0, none⟩) m1 m1 = x := by simpa using hx
            subst hx'
            rw [put_ne (by omega), put_at (by omega)]
          · rw [List.getElem?_append_right (by simp; omega)] at hx
            have h3 : i - (vs ++ [Value.slice (some ⟨g1, 0, none⟩) m1 m1]).length = 0 := by simp; omega
            rw [h3] at hx
            have hx' : Value.slice (some ⟨g2, 0, none⟩) m2 m2 = x := by simpa using hx
            subst hx'
            rw [put_at (by simp; omega)])
      have hfz := hHas1.frozen
      obtain ⟨u0, c0⟩ : ∃ u, w1.cell? ⟨w.heap.size, k * 2, none⟩ = some u := by
        rw [hHas1.cell]
        exact ⟨_, Array.getElem?_eq_getElem (by omega)⟩
      obtain ⟨u1, c1⟩ : ∃ u, w1.cell? ⟨w.heap.size, k * 2 + 1, none⟩ = some u := by
        rw [hHas1.cell]
        exact ⟨_, Array.getElem?_eq_getElem (by omega)⟩
      clear pl hb3 hHas1 hO1 hO2 hkp
      go_wp2_with fail
      go_roundg (n - (k + 1))
      case measure => omega
      case rel => exact ⟨k + 1, _, _, by omega, rfl, by go_num, hNh.out, by simp; exact hcs, by simp; omega, hNf.out, hNrow.out, hNap.out, (hB1.out.setCell (p := ⟨w.heap.size, k * 2, none⟩) (Nat.le_refl _) _).setCell (p := ⟨w.heap.size, k * 2 + 1, none⟩) (Nat.le_refl _) _⟩
    · obtain rfl : k = n := by omega
      have hL2 := hL.out
      have hRF := Lib.hid (show RowsF wr w.heap.size (.slice (some ⟨w.heap.size, 0, none⟩) k k) Fs vs from ⟨⟨by omega, .inr ⟨w.heap.size, k, cs, by rw [hL2], Nat.le_refl _, hHas.out, by omega, by unfold maxLen; omega, by omega, by
        apply List.ext_getElem?
        intro i
        rw [List.getElem?_take]
        by_cases hi : i < vs.length
        · rw [if_pos (by omega), Array.getElem?_toList, hFill.out i _ (List.getElem?_eq_getElem hi), List.getElem?_eq_getElem hi]
        · rw [List.getElem?_eq_none (l := vs) (by omega)]
          split
          · omega
          · rfl⟩⟩, hRow.out⟩)
      go_wp2_with fail
      go_ret
      exact ⟨_, vs, rfl, RsFB.pl hRF.out, hAp.out, hBh.out⟩
end Go.Proofs.Ytaipdkfbkcknkaa

namespace Go.Proofs.Ytaipdkfbkcknkaa
set_option maxRecDepth 100000
set_option linter.unusedVariables false
open Go.RowKit
/-- The rows' memory is numbered through. -/
def MkdF (w : World) (base : Nat) (A : Option Addr) (n c : Nat) (Fs : List Fac) (vs : List Value) (m : Int) : Prop :=
  w.ownsRow base 36 2 (.slice A n c) n vs ∧ ∀ (i : Nat) (ds : List Int), (rowsF Fs)[i]? = some ds → ∃ Ax cx, vs[i]? = some (.slice Ax ds.length cx) ∧ Ils w w.heap.size Ax ds.length (nums (m + offs (rowsF Fs) i) ds.length)
def MkFB (lo hi : Nat) (A : Option Addr) (n c : Nat) (Fs : List Fac) (vs : List Value) (m : Int) (w : World) : Prop := MkdF w lo A n c Fs vs m ∧ (∀ k, (Value.slice A n c).ownBlock = some k → k < hi) ∧ ∀ x ∈ vs, ∀ k, x.ownBlock = some k → lo ≤ k ∧ k < hi
theorem MkFB.pl {w : World} {lo hi n c : Nat} {A : Option Addr} {Fs : List Fac} {vs : List Value} {m : Int} (h : MkdF w lo A n c Fs vs m) (h1 : ∀ k, (Value.slice A n c).ownBlock = some k → k < hi) (h2 : ∀ x ∈ vs, ∀ k, x.ownBlock = some k → lo ≤ k ∧ k < hi) (hh : hi ≤ w.heap.size) : Pl (MkFB lo hi A n c Fs vs m) lo hi w := by
  refine ⟨⟨h, h1, h2⟩, hh, fun a b ha hs hab hk => ⟨⟨⟨ha.1.1.1, ?_⟩, fun i ds hds => ?_⟩, ha.2⟩⟩
  · rcases ha.1.1.2 with h0 | ⟨g, cap, cur, hv, hg, hh, rest⟩
    · exact .inl h0
    · exact .inr ⟨g, cap, cur, hv, hg, (hk g hg (ha.2.1 g (by rw [hv]; rfl))).trans hh, rest⟩
  · obtain ⟨Ax, cx, hx, hi⟩ := ha.1.2 i ds hds
    refine ⟨Ax, cx, hx, hi.1, fun hn => ?_⟩
    obtain ⟨g, off, e, hg, hc⟩ := hi.2 hn
    have hg2 := ha.2.2 _ (List.mem_of_getElem? hx) g (by rw [e]; rfl)
    refine ⟨g, off, e, Nat.lt_of_lt_of_le hg hab, fun k d hd => (World.cell?_of_block ?_).trans (hc k d hd)⟩
    exact hk g hg2.1 hg2.2
theorem MkdF.cell {w : World} {base : Nat} {A : Option Addr} {n c k : Nat} {Fs : List Fac} {vs : List Value} {m : Int} (h : MkdF w base A n c Fs vs m) (hL : Fs.length = n) (hk : k < n) :
    ∃ (g : Nat) (F : Fac) (A1 : Option Addr) (c1 : Nat) (A2 : Option Addr) (c2 : Nat), A = some ⟨g, 0, none⟩ ∧ Fs[k]? = some F ∧ w.cell? ⟨g, k * 2, none⟩ = some (.slice A1 F.vs.length c1) ∧ w.cell? ⟨g, k * 2 + 1, none⟩ = some (.slice A2 F.ns.length c2) ∧ Ils w w.heap.size A1 F.vs.length (nums (m + offs (rowsF Fs) (k * 2)) F.vs.length) ∧ Ils w w.heap.size A2 F.ns.length (nums (m + offs (rowsF Fs) (k * 2 + 1)) F.ns.length) := by
  obtain ⟨F, hF⟩ : ∃ F, Fs[k]? = some F := ⟨_, List.getElem?_eq_getElem (by omega)⟩
  obtain ⟨r1, r2⟩ := rowsF_get hF
  obtain ⟨A1, c1, hx, hi⟩ := h.2 _ _ r1
  obtain ⟨A2, c2, hy, hj⟩ := h.2 _ _ r2
  rcases h.1.2 with ⟨hv, hn0⟩ | ⟨g, cap, cur, hv, _⟩
  · omega
  · injection hv with e1 _ _
    subst e1
    refine ⟨g, F, A1, c1, A2, c2, rfl, hF, ?_, ?_, hi, hj⟩
    · rw [← World.ownsRow.cells h.1 (g := g) rfl _ _ hx, cell_add]
    · rw [← World.ownsRow.cells h.1 (g := g) rfl _ _ hy, cell_add]
theorem offs_two {Fs : List Fac} {k : Nat} {F : Fac} (h : Fs[k]? = some F) : offs (rowsF Fs) (k * 2 + 1) = offs (rowsF Fs) (k * 2) + F.vs.length ∧ offs (rowsF Fs) ((k + 1) * 2) = offs (rowsF Fs) (k * 2) + F.vs.length + F.ns.length := by
  obtain ⟨r1, r2⟩ := rowsF_get h
  have h1 := offs_succ r1
  have h2 := offs_succ r2
  have e : (k + 1) * 2 = k * 2 + 1 + 1 := by omega
  rw [e, h2, h1]
  exact ⟨rfl, rfl⟩
theorem offs_mono_ (rs : List (List Int)) : ∀ d k : Nat, offs rs k ≤ offs rs (k + d)
  | 0, k => Nat.le_refl _
  | d + 1, k => by
    have ih := offs_mono_ rs d k
    cases h : rs[k + d]? with
    | none =>
      have hl := List.getElem?_eq_none_iff.1 h
      have e : offs rs (k + (d + 1)) = offs rs (k + d) := by
        unfold offs
        rw [List.take_of_length_le (by omega), List.take_of_length_le hl]
      rw [e]
      exact ih
    | some F =>
      have := offs_succ h
      have e : k + (d + 1) = k + d + 1 := by omega
      rw [e, this]
      omega
set_option maxHeartbeats 2000000 in
theorem markFactorS_any (A : Option Addr) (n c base : Nat) (Fs : List Fac) (vs : List Value) (m : Int) (w : World) (h : RowsF w base (.slice A n c) Fs vs) (ha : Apart vs) (hL : Fs.length = n) (hm : 0 ≤ m) (hm2 : m ≤ 1000000000) (hn : n ≤ 1048576) (ht : offs (rowsF Fs) (n * 2) ≤ 10000000) :
    Calls Try.prog 24 #[.slice A n c, .int .i64 m] w fun e w' => e = .returned (.int .i64 (m + offs (rowsF Fs) (n * 2))) ∧ MkdF w' base A n c Fs vs m ∧ KeptBut w w' (RowB vs (n * 2)) := by
  have hH := Lib.hid h
  have hap := Lib.hid ha
  have hof := Lib.hid (fun k (hk : k < n) => show offs (rowsF Fs) ((k + 1) * 2) ≤ 10000000 from by
    have := offs_mono_ (rowsF Fs) (n * 2 - (k + 1) * 2) ((k + 1) * 2)
    rw [show (k + 1) * 2 + (n * 2 - (k + 1) * 2) = n * 2 by omega] at this
    omega)
  have hvl := h.length
  have houter := Lib.hid (show ∀ (wr : World) (k : Nat), KeptBut w wr (RowB vs k) → wr.ownsRow base 36 2 (.slice A n c) n vs from fun wr k hk => by
    have := owns_but h.1 hk (fun b hb ⟨i, x, _, hx, hxb⟩ => by
      obtain ⟨ds, _, ho⟩ := h.2 i x hx
      obtain ⟨c1, h1⟩ := owns_has ho hxb
      obtain ⟨c2, h2⟩ := owns_has h.1 hb
      exact has_ne h1 h2 fac_ne_int rfl)
    rwa [hL] at this)
  clear h ha ht
  go_enter Try.func24, Try.ntmps24
  go_wp2_with fail
  go_loopg [1, 5] n (fun gn q i wr => ∃ k : Nat, k ≤ n ∧ gn = n - k ∧ i = .int .i64 k ∧ q = .int .i64 (m + offs (rowsF Fs) (k * 2)) ∧ KeptBut w wr (RowB vs (k * 2)) ∧ ∀ (j : Nat) (ds : List Int), j < k * 2 → (rowsF Fs)[j]? = some ds → ∃ Ax cx, vs[j]? = some (.slice Ax ds.length cx) ∧ Ils wr wr.heap.size Ax ds.length (nums (m + offs (rowsF Fs) j) ds.length))
  case atStart => exact ⟨0, Nat.zero_le _, rfl, rfl, by simp [offs_zero], KeptBut.refl _ _, fun j ds hj => absurd hj (by omega)⟩
  case round =>
    obtain ⟨k, hk, hgn, rfl, rfl, hK, hMk⟩ := hrel
    have hgk : gk = n - k := hgn
    have hKh := Lib.hid hK
    have hMh := Lib.hid hMk
    have hO := houter.out wr _ hK
    clear hMk hgn
    by_cases hlt : k < n
    · obtain ⟨g, F, A1, c1, A2, c2, hA, hFk, hv1, hv2, _, _, ho1, ho2, _⟩ := hH.out.at_ hL hlt
      subst hA
      obtain ⟨r1, r2⟩ := rowsF_get hFk
      have hk0 : (0 : Int) ≤ (k : Int) := by omega
      have hk1 : (k : Int) < (n : Int) := by omega
      obtain ⟨of1, of2⟩ := offs_two hFk
      have hok := hof.out k hlt
      rw [of2] at hok
      have hc1 : wr.cell? ⟨g, k * 2, none⟩ = some (.slice A1 F.vs.length c1) := by
        rw [← World.ownsRow.cells hO (g := g) rfl _ _ hv1, cell_add]
      have hx1 := ho1.but hK (fun b hb ⟨i, y, hi, hy, hyb⟩ => hap.out i (k * 2) y _ hi hy hv1 b hyb hb)
      have hx2 := ho2.but hK (fun b hb ⟨i, y, hi, hy, hyb⟩ => hap.out i (k * 2 + 1) y _ (by omega) hy hv2 b hyb hb)
      have hM1 := Lib.hid (markIntS_any A1 F.vs.length c1 (m + offs (rowsF Fs) (k * 2)) wr (iown_wr' hx1) (by omega) (by omega) (by omega))
      have hX2 := Lib.hid hx2
      have hV1 := Lib.hid hv1
      have hV2 := Lib.hid hv2
      have hR1 := Lib.hid r1
      have hR2 := Lib.hid r2
      have hne := Lib.hid (fun b (hb : (Value.slice A1 F.vs.length c1).ownBlock = some b) => hap.out (k * 2) (k * 2 + 1) _ _ (by omega) hv1 hv2 b hb)
      clear hx1 hx2 hK hO hv1 hv2 r1 r2
      go_wp2_with fail
      refine (hM1.out).mono ?_
      rintro e w5 ⟨rfl, ho5, hi5⟩
      have hK5 : KeptBut wr w5 (fun b => A1.map (·.block) = some b) := KeptBut.of_grown ho5 (fun k e => e)
      have hK5w := Lib.hid (show KeptBut w w5 (RowB vs (k * 2 + 1)) from KeptBut.trans (hKh.out.mono (fun b _ ⟨i, x, hi, hx⟩ => ⟨i, x, by omega, hx⟩)) hK5 (fun b _ hb => ⟨k * 2, _, Nat.lt_succ_self _, hV1.out, by rw [own_map]; exact hb⟩))
      have hO5 := houter.out w5 _ hK5w.out
      have hc2 : w5.cell? ⟨g, k * 2 + 1, none⟩ = some (.slice A2 F.ns.length c2) := by
        rw [← World.ownsRow.cells hO5 (g := g) rfl _ _ hV2.out, cell_add]
      have hx2 := hX2.out.but hK5 (fun b hb e => hne.out b (by rw [own_map]; exact e) hb)
      have hM2 := Lib.hid (markIntS_any A2 F.ns.length c2 (m + offs (rowsF Fs) (k * 2) + F.vs.length) w5 (iown_wr' hx2) (by omega) (by omega) (by omega))
      have hi5h := Lib.hid hi5
      have hMh5 := Lib.hid (show ∀ (j : Nat) (es : List Int), j < k * 2 → (rowsF Fs)[j]? = some es → ∃ Ay cy, vs[j]? = some (.slice Ay es.length cy) ∧ Ils w5 w5.heap.size Ay es.length (nums (m + offs (rowsF Fs) j) es.length) from fun j es hj hes => by
        obtain ⟨Ay, cy, hy, hil⟩ := hMh.out j es hj hes
        exact ⟨Ay, cy, hy, ils_but hil hK5 (fun b hb hb2 => hap.out j (k * 2) _ _ hj hy hV1.out b (by rw [own_map]; exact hb) (by rw [own_map]; exact hb2))⟩)
      have hc1w := hc1
      clear hO5 hx2 ho5 hi5 hK5 hc1w hc1
      go_wp2_with fail
      refine (hM2.out).mono ?_
      rintro e w6 ⟨rfl, ho6, hi6⟩
      have hK6 : KeptBut w5 w6 (fun b => A2.map (·.block) = some b) := KeptBut.of_grown ho6 (fun k e => e)
      have hrel6 := Lib.hid (show KeptBut w w6 (RowB vs ((k + 1) * 2)) ∧ ∀ (j : Nat) (es : List Int), j < (k + 1) * 2 → (rowsF Fs)[j]? = some es → ∃ Ay cy, vs[j]? = some (.slice Ay es.length cy) ∧ Ils w6 w6.heap.size Ay es.length (nums (m + offs (rowsF Fs) j) es.length) from by
        refine ⟨KeptBut.trans (hK5w.out.mono (fun b _ ⟨i, x, hi, hx⟩ => ⟨i, x, by omega, hx⟩)) hK6 (fun b _ hb => ⟨k * 2 + 1, _, by omega, hV2.out, by rw [own_map]; exact hb⟩), fun j es hj hes => ?_⟩
        by_cases hj2 : j = k * 2 + 1
        · subst hj2
          obtain rfl : F.ns = es := Option.some.inj (hR2.out.symm.trans hes)
          refine ⟨A2, c2, hV2.out, ?_⟩
          rw [of1]
          have e : m + ((offs (rowsF Fs) (k * 2) + F.vs.length : Nat) : Int) = m + offs (rowsF Fs) (k * 2) + F.vs.length := by omega
          rw [e]
          exact hi6
        · by_cases hj1 : j = k * 2
          · subst hj1
            obtain rfl : F.vs = es := Option.some.inj (hR1.out.symm.trans hes)
            exact ⟨A1, c1, hV1.out, ils_but hi5h.out hK6 (fun b hb hb2 => hne.out b (by rw [own_map]; exact hb) (by rw [own_map]; exact hb2))⟩
          · obtain ⟨Ay, cy, hy, hil⟩ := hMh5.out j es (by omega) hes
            exact ⟨Ay, cy, hy, ils_but hil hK6 (fun b hb hb2 => hap.out j (k * 2 + 1) _ _ (by omega) hy hV2.out b (by rw [own_map]; exact hb) (by rw [own_map]; exact hb2))⟩)
      clear ho6 hi6 hK6
      go_wp2_with fail
      go_roundg (n - (k + 1))
      case measure => omega
      case rel => exact ⟨k + 1, by omega, rfl, by go_num, congrArg (Value.int .i64) (by rw [of2]; omega), hrel6.out.1, hrel6.out.2⟩
    · obtain rfl : k = n := by omega
      have hF := Lib.hid (show MkdF wr base A k c Fs vs m from ⟨hO, fun i ds hds => hMh.out i ds (by have := (List.getElem?_eq_some_iff.1 hds).1; rw [rowsF_len] at this; omega) hds⟩)
      clear hO hK
      go_wp2_with fail
      go_ret
      exact ⟨rfl, hF.out, hKh.out⟩
end Go.Proofs.Ytaipdkfbkcknkaa
namespace Go.Proofs.Ytaipdkfbkcknkaa
set_option maxRecDepth 100000
set_option linter.unusedVariables false
open Go.RowKit
theorem offs_offF {Fs : List Fac} : ∀ {k : Nat}, k ≤ Fs.length → offs (rowsF Fs) (k * 2) = offF Fs k
  | 0, _ => by simp [offs_zero, offF]
  | k + 1, h => by
    have hF := List.getElem?_eq_getElem (l := Fs) (i := k) (by omega)
    rw [(offs_two hF).2, offs_offF (by omega), offF_succ hF]
    omega
theorem markG_pl (A : Option Addr) (n c lo hi : Nat) (m : Int) (Fs : List Fac) (vs : List Value) (w : World) (h : Pl (RsFB lo hi (.slice A n c) Fs vs) lo hi w) (ha : Apart vs) (hL : Fs.length = n) (hm : 0 ≤ m) (hm2 : m ≤ 1000000000) (hn : n ≤ 1048576) (ht : offs (rowsF Fs) (n * 2) ≤ 10000000) :
    Calls Try.prog 24 #[.slice A n c, .int .i64 m] w fun e w' => e = .returned (.int .i64 (m + offs (rowsF Fs) (n * 2))) ∧ KeptBut w w' (fun k => lo ≤ k ∧ k < hi) ∧ Pl (MkFB lo hi A n c Fs vs m) lo hi w' := by
  refine (markFactorS_any A n c lo Fs vs m w h.1.1 ha hL hm hm2 hn ht).mono ?_
  rintro e w1 ⟨rfl, hk, hb⟩
  exact ⟨rfl, hb.mono (fun k _ ⟨i, x, _, hx, hxk⟩ => h.1.2.2 x (List.mem_of_getElem? hx) k hxk), MkFB.pl hk h.1.2.1 h.1.2.2 (Nat.le_trans h.2.1 hb.size)⟩
end Go.Proofs.Ytaipdkfbkcknkaa

namespace Go.Proofs.Ytaipdkfbkcknkaa
set_option maxRecDepth 100000
set_option linter.unusedVariables false
/-- Graphs of the four variables: the pairs 01 02 03 12 13 23. -/
structure Gr where
  a : Bool
  b : Bool
  c : Bool
  d : Bool
  e : Bool
  f : Bool
def Gr.nb (g : Gr) : Nat → Nat
  | 0 => 1 + 2 * g.a.toNat + 4 * g.b.toNat + 8 * g.c.toNat
  | 1 => g.a.toNat + 2 + 4 * g.d.toNat + 8 * g.e.toNat
  | 2 => g.b.toNat + 2 * g.d.toNat + 4 + 8 * g.f.toNat
  | _ => g.c.toNat + 2 * g.e.toNat + 4 * g.f.toNat + 8
def grOf (N : Nat → Nat) : Gr := ⟨(N 0).testBit 1, (N 0).testBit 2, (N 0).testBit 3, (N 1).testBit 2, (N 1).testBit 3, (N 2).testBit 3⟩
/-- A graph without a variable. -/
def Gr.el (g : Gr) (v : Nat) : Gr := grOf fun u => if u = v then 2 ^ v else if (g.nb v).testBit u then (g.nb u ||| g.nb v) &&& (15 - 2 ^ v) else g.nb u
def cntN (L : Nat) : Nat := (L % 2 + L / 2 % 2) + (L / 4 % 2 + L / 8 % 2)
def Gr.w1 (g : Gr) (v : Nat) : Nat := cntN (g.nb v)
def Gr.stepJ (g : Gr) (T J : Nat) : Nat := (List.range 4).foldl (fun R u => if J.testBit u && T.testBit u then R ||| g.nb u else R) J
def Gr.cl (g : Gr) (T v : Nat) : Nat := g.stepJ T (g.stepJ T (g.stepJ T (2 ^ v)))
/-- How many variables the product has by which one is eliminated when others are gone. -/
def Gr.wP (g : Gr) (gone v : Nat) : Nat := cntN (g.cl (gone ||| 2 ^ v) v &&& (15 - gone))
def Gr.elS (g : Gr) (p : List Nat) : Gr := p.foldl Gr.el g
def maskN (p : List Nat) : Nat := p.foldl (fun m v => m ||| 2 ^ v) 0
/-- All orders of some of the variables. -/
def extO (p : List Nat) : List (List Nat) := ((List.range 4).filter fun v => !p.contains v).map fun v => p ++ [v]
def ords1 : List (List Nat) := extO []
def ords2 : List (List Nat) := ords1.flatMap extO
def ords3 : List (List Nat) := ords2.flatMap extO
def perms : List (List Nat) := ords3.flatMap extO
def ordsAll : List (List Nat) := [[]] ++ ords1 ++ ords2 ++ ords3 ++ perms
def Gr.nxt (g : Gr) (least : List Nat) (gone : Nat) : Nat → Nat × Nat
  | 0 => (0, 5)
  | v + 1 => if gone.testBit v then g.nxt least gone v else if max (max (g.wP gone v) (least.getD (gone ||| 2 ^ v) 0)) (least.getD 0 0) < (g.nxt least gone v).2 then (v, max (max (g.wP gone v) (least.getD (gone ||| 2 ^ v) 0)) (least.getD 0 0)) else g.nxt least gone v
def zN (n : Nat) : List Nat := List.replicate n 0
def Gr.lst (g : Gr) : Nat → List Nat
  | 0 => zN 16
  | k + 1 => (g.lst k).set (14 - k) (g.nxt (g.lst k) (14 - k) 4).2
def Gr.ord (g : Gr) (least : List Nat) : Nat → List Nat
  | 0 => []
  | k + 1 => g.ord least k ++ [(g.nxt least (maskN (g.ord least k)) 4).1]
def Gr.greedy (g : Gr) : List Nat := g.ord (zN 16) 4
/-- The model's greedy choice among the first variables: 4 is none yet. -/
def Gr.pickM (g : Gr) (out : List Nat) : Nat → Nat
  | 0 => 4
  | v + 1 => if !out.contains v && (g.pickM out v == 4 || decide (g.w1 v < g.w1 (g.pickM out v))) then v else g.pickM out v
def Gr.gm (g : Gr) : Nat → List Nat
  | 0 => []
  | k + 1 => g.gm k ++ [(g.elS (g.gm k)).pickM (g.gm k) 4]
end Go.Proofs.Ytaipdkfbkcknkaa

namespace Go.Proofs.Ytaipdkfbkcknkaa
set_option maxRecDepth 100000
set_option linter.unusedVariables false
open Go.RowKit
/-- The variables that have a set with one, and itself. -/
def nbS (ss : List Int) (u : Nat) : Int := ss.foldl (fun J s => if tb s u = true then bor J s else J) (bitN (u : Int))
def grS (ss : List Int) : Gr := grOf fun u => (nbS ss u).toNat
def Sts (ss : List Int) : Prop := ∀ s ∈ ss, 0 ≤ s ∧ s ≤ 15
theorem fold_bdS (p : Int → Bool) : ∀ {ss : List Int}, Sts ss → ∀ {J : Int}, 0 ≤ J ∧ J ≤ 15 → 0 ≤ ss.foldl (fun J s => if p s = true then bor J s else J) J ∧ ss.foldl (fun J s => if p s = true then bor J s else J) J ≤ 15
  | [], _, _, hJ => hJ
  | s :: r, h, J, hJ => by
    rw [List.foldl_cons]
    refine fold_bdS p (fun x hx => h x (List.mem_cons_of_mem _ hx)) ?_
    split
    · exact bor_bd hJ.2 (h s List.mem_cons_self).2
    · exact hJ
theorem fold_tbS (p : Int → Bool) (w : Nat) : ∀ (ss : List Int) (J : Int), tb (ss.foldl (fun J s => if p s = true then bor J s else J) J) w = (tb J w || ss.any fun s => p s && tb s w)
  | [], J => by simp
  | s :: r, J => by
    rw [List.foldl_cons, fold_tbS p w r, List.any_cons]
    cases hp : p s
    · rw [if_neg (by decide), Bool.false_and, Bool.false_or]
    · rw [if_pos rfl, tb_bor, Bool.true_and, Bool.or_assoc]
theorem nbS_tb (ss : List Int) {u w : Nat} (hu : u ≤ 3) (hw : w ≤ 3) : tb (nbS ss u) w = (decide (u = w) || ss.any fun s => tb s u && tb s w) := by
  unfold nbS
  rw [fold_tbS (fun s => tb s u) w ss, tb_bit (by omega) (by omega) hw]
  congr 1
  rw [decide_eq_decide]
  omega
theorem nbS_bd {ss : List Int} (h : Sts ss) (u : Nat) : 0 ≤ nbS ss u ∧ nbS ss u ≤ 15 := fold_bdS (fun s => tb s u) h (bitN_le _)
theorem nb_all0 : ∀ n : Fin 16, n.val.testBit 0 = true → 1 + 2 * (n.val.testBit 1).toNat + 4 * (n.val.testBit 2).toNat + 8 * (n.val.testBit 3).toNat = n.val := by decide +kernel
theorem nb_all1 : ∀ n : Fin 16, n.val.testBit 1 = true → (n.val.testBit 0).toNat + 2 + 4 * (n.val.testBit 2).toNat + 8 * (n.val.testBit 3).toNat = n.val := by decide +kernel
theorem nb_all2 : ∀ n : Fin 16, n.val.testBit 2 = true → (n.val.testBit 0).toNat + 2 * (n.val.testBit 1).toNat + 4 + 8 * (n.val.testBit 3).toNat = n.val := by decide +kernel
theorem nb_all3 : ∀ n : Fin 16, n.val.testBit 3 = true → (n.val.testBit 0).toNat + 2 * (n.val.testBit 1).toNat + 4 * (n.val.testBit 2).toNat + 8 = n.val := by decide +kernel
/-- What is symmetric and has itself is a graph's. -/
theorem grOf_nb {N : Nat → Nat} (h16 : ∀ u, u ≤ 3 → N u < 16) (hr : ∀ u, u ≤ 3 → (N u).testBit u = true) (hs : ∀ u w, u ≤ 3 → w ≤ 3 → (N u).testBit w = (N w).testBit u) {u : Nat} (hu : u ≤ 3) : (grOf N).nb u = N u := by
  obtain rfl | rfl | rfl | rfl : u = 0 ∨ u = 1 ∨ u = 2 ∨ u = 3 := by omega
  · exact nb_all0 ⟨N 0, h16 0 hu⟩ (hr 0 hu)
  · have h := nb_all1 ⟨N 1, h16 1 hu⟩ (hr 1 hu)
    simp only at h
    rw [hs 1 0 hu (by decide)] at h
    exact h
  · have h := nb_all2 ⟨N 2, h16 2 hu⟩ (hr 2 hu)
    simp only at h
    rw [hs 2 0 hu (by decide), hs 2 1 hu (by decide)] at h
    exact h
  · have h := nb_all3 ⟨N 3, h16 3 hu⟩ (hr 3 hu)
    simp only at h
    rw [hs 3 0 hu (by decide), hs 3 1 hu (by decide), hs 3 2 hu (by decide)] at h
    exact h
theorem grS_nb {ss : List Int} (h : Sts ss) {u : Nat} (hu : u ≤ 3) : (grS ss).nb u = (nbS ss u).toNat := by
  have ht : ∀ u w, u ≤ 3 → w ≤ 3 → (nbS ss u).toNat.testBit w = (decide (u = w) || ss.any fun s => tb s u && tb s w) := fun u w hu hw => nbS_tb ss hu hw
  refine grOf_nb (N := fun u => (nbS ss u).toNat) (fun u _ => by have := nbS_bd h u; show (nbS ss u).toNat < 16; omega) (fun u hu => ?_) (fun u w hu hw => ?_) hu
  · show (nbS ss u).toNat.testBit u = true
    rw [ht u u hu hu, decide_eq_true rfl, Bool.true_or]
  · show (nbS ss u).toNat.testBit w = (nbS ss w).toNat.testBit u
    rw [ht u w hu hw, ht w u hw hu]
    congr 1
    · rw [decide_eq_decide]; exact ⟨Eq.symm, Eq.symm⟩
    · congr 1; funext s; exact Bool.and_comm _ _
theorem nat_ext {a b : Nat} (ha : a < 16) (hb : b < 16) (h : ∀ w, w ≤ 3 → a.testBit w = b.testBit w) : a = b := by
  have : ∀ x y : Fin 16, (∀ w : Fin 4, x.val.testBit w.val = y.val.testBit w.val) → x = y := by decide +kernel
  have := this ⟨a, ha⟩ ⟨b, hb⟩ fun w => h w.val (by omega)
  exact congrArg Fin.val this
theorem grOf_congr {N N' : Nat → Nat} (h : ∀ u, u ≤ 3 → N u = N' u) : grOf N = grOf N' := by
  unfold grOf
  rw [h 0 (by decide), h 1 (by decide), h 2 (by decide)]
/-- Sets without a variable. -/
def elS1 (ss : List Int) (v : Nat) : List Int := (ss.filter fun s => !tb s v) ++ [bdf (nbS ss v) (bitN (v : Int))]
theorem elS1_sts {ss : List Int} (h : Sts ss) (v : Nat) : Sts (elS1 ss v) := fun s hs => by
  rcases List.mem_append.1 hs with hs | hs
  · exact h s (List.mem_filter.1 hs).1
  · rw [List.mem_singleton.1 hs]
    exact bdf_bd (nbS_bd h v).2
theorem any_filter_ {α : Type} (p q : α → Bool) : ∀ l : List α, (l.filter p).any q = l.any fun x => p x && q x
  | [] => rfl
  | x :: r => by
    rw [List.any_cons]
    cases h : p x
    · rw [List.filter_cons_of_neg (by simp [h]), any_filter_ p q r]; simp
    · rw [List.filter_cons_of_pos h, List.any_cons, any_filter_ p q r]; simp
theorem el_grS {ss : List Int} (h : Sts ss) {v : Nat} (hv : v ≤ 3) : grS (elS1 ss v) = (grS ss).el v := by
  unfold Gr.el
  unfold grS
  refine grOf_congr fun u hu => ?_
  have hb := nbS_bd (elS1_sts h v) u
  have hnv := grS_nb h hv
  have hnu := grS_nb h hu
  unfold grS at hnv hnu
  have hbv := nbS_bd h v
  have hbu := nbS_bd h u
  rw [hnv, hnu]
  have hor : (nbS ss u).toNat ||| (nbS ss v).toNat < 2 ^ 4 := Nat.or_lt_two_pow (by omega) (by omega)
  have hp : 2 ^ v < 16 := by
    obtain rfl | rfl | rfl | rfl : v = 0 ∨ v = 1 ∨ v = 2 ∨ v = 3 := by omega
    all_goals decide
  have hmask : ∀ v w : Fin 4, (15 - 2 ^ v.val : Nat).testBit w.val = !decide (v.val = w.val) := by decide +kernel
  refine nat_ext (by omega) ?_ fun w hw => ?_
  · split
    · exact hp
    · split
      · exact Nat.lt_of_le_of_lt Nat.and_le_left (by omega)
      · omega
  · have e1 : (nbS (elS1 ss v) u).toNat.testBit w = (decide (u = w) || ((ss.any fun s => !tb s v && (tb s u && tb s w)) || (tb (bdf (nbS ss v) (bitN (v : Int))) u && tb (bdf (nbS ss v) (bitN (v : Int))) w))) := by
      have := nbS_tb (elS1 ss v) hu hw
      unfold tb at this
      rw [this]
      congr 1
      unfold elS1
      rw [List.any_append, any_filter_, List.any_cons, List.any_nil, Bool.or_false]
      rfl
    rw [e1, tb_bdf (by omega) (by omega) hu, tb_bdf (by omega) (by omega) hw, nbS_tb ss hv hu, nbS_tb ss hv hw]
    have tu : ∀ x, x ≤ 3 → (nbS ss u).toNat.testBit x = (decide (u = x) || ss.any fun s => tb s u && tb s x) := fun x hx => nbS_tb ss hu hx
    have tv : ∀ x, x ≤ 3 → (nbS ss v).toNat.testBit x = (decide (v = x) || ss.any fun s => tb s v && tb s x) := fun x hx => nbS_tb ss hv hx
    by_cases huv : u = v
    · subst huv
      rw [if_pos rfl, decide_eq_true (show (u : Int) = (u : Int) from rfl)]
      have hany : (ss.any fun s => !tb s u && (tb s u && tb s w)) = false := by
        rw [List.any_eq_false]
        intro s _
        cases tb s u <;> simp
      rw [hany]
      have : ∀ u w : Fin 4, (2 ^ u.val : Nat).testBit w.val = decide (u.val = w.val) := by decide +kernel
      have h3 := this ⟨u, by omega⟩ ⟨w, by omega⟩
      simp only at h3
      rw [h3]
      simp
    · have hdu : decide (v = u) = false := decide_eq_false (Ne.symm huv)
      have hdi : decide ((v : Int) = (u : Int)) = false := decide_eq_false (by omega)
      have hwv : decide ((v : Int) = (w : Int)) = decide (v = w) := by rw [decide_eq_decide]; omega
      rw [if_neg huv, hdu, hdi, hwv, tv u hu, hdu, Bool.false_or]
      have hm := hmask ⟨v, by omega⟩ ⟨w, by omega⟩
      simp only at hm
      cases hA : ss.any fun s => tb s v && tb s u
      · rw [if_neg (by decide), tu w hw]
        simp only [Bool.not_false, Bool.and_true, Bool.false_and, Bool.or_false]
        congr 1
        rw [Bool.eq_iff_iff, List.any_eq_true, List.any_eq_true]
        constructor
        · rintro ⟨s, hs, hq⟩
          exact ⟨s, hs, by simp at hq ⊢; exact hq.2⟩
        · rintro ⟨s, hs, hq⟩
          refine ⟨s, hs, ?_⟩
          have := List.any_eq_false.1 hA s hs
          simp at hq this ⊢
          refine ⟨?_, hq⟩
          cases hsv : tb s v
          · rfl
          · have := this hsv
            rw [hq.1] at this
            cases this
      · rw [if_pos rfl, Nat.testBit_and, Nat.testBit_or, hm, tu w hw, tv w hw]
        by_cases hvw : v = w
        · subst hvw
          rw [decide_eq_true (rfl : v = v)]
          have : (ss.any fun s => !tb s v && (tb s u && tb s v)) = false := by
            rw [List.any_eq_false]
            intro s _
            cases tb s v <;> simp
          rw [this, decide_eq_false huv]
          simp
        · rw [decide_eq_false hvw]
          simp only [Bool.not_false, Bool.and_true, Bool.true_and, Bool.false_or]
          rw [Bool.or_assoc]
          congr 1
          rw [Bool.eq_iff_iff, Bool.or_eq_true, Bool.or_eq_true, List.any_eq_true, List.any_eq_true, List.any_eq_true]
          constructor
          · rintro (⟨s, hs, hq⟩ | h2)
            · exact .inl ⟨s, hs, by simp at hq ⊢; exact hq.2⟩
            · exact .inr h2
          · rintro (⟨s, hs, hq⟩ | h2)
            · cases hsv : tb s v
              · exact .inl ⟨s, hs, by simp at hq ⊢; exact ⟨hsv, hq⟩⟩
              · exact .inr ⟨s, hs, by simp at hq ⊢; exact ⟨hsv, hq.2⟩⟩
            · exact .inr h2
end Go.Proofs.Ytaipdkfbkcknkaa
