/- Parts of the proof: Gk. -/
import Derived.Test.YtaipdkfbkcknkaaZAI
namespace Go.Proofs.Ytaipdkfbkcknkaa
set_option maxRecDepth 100000
set_option linter.unusedVariables false
open Go.RowKit
/-- The rows' memory is numbered through. -/
def MkdF (w : World) (base : Nat) (A : Option Addr) (n c : Nat) (Fs : List Fac) (vs : List Value) (m : Int) : Prop :=
  w.ownsRow base 36 2 (.slice A n c) n vs ∧ ∀ (i : Nat) (ds : List Int), (rowsF Fs)[i]? = some ds → ∃ Ax cx, vs[i]? = some (.slice Ax ds.length cx) ∧ Ils w w.heap.size Ax ds.length (nums (m + offs (rowsF Fs) i) ds.length)
def MkFB (lo hi : Nat) (A : Option Addr) (n c : Nat) (Fs : List Fac) (vs : List Value) (m : Int) (w : World) : Prop := MkdF w lo A n c Fs vs m ∧ (∀ k, (Value.slice A n c).ownBlock = some k → k < hi) ∧ ∀ x ∈ vs, ∀ k, x.ownBlock = some k → lo ≤ k ∧ k < hi
theorem MkFB.pl {w : World} {lo hi n c : Nat} {A : Option Addr} {Fs : List Fac} {vs : List Value} {m : Int} (h : MkdF w lo A n c Fs vs m) (h1 : ∀ k, (Value.slice A n c).ownBlock = some k → k < hi) (h2 : ∀ x ∈ vs, ∀ k, x.ownBlock = some k → lo ≤ k ∧ k < hi) (hh : hi ≤ w.heap.size) : Pl (MkFB lo hi A n c Fs vs m) lo hi w := by
  refine ⟨⟨h, h1, h2⟩, hh, fun a b ha hs hab hk => ⟨⟨⟨ha.1.1.1, ?_⟩, fun i ds hds => ?_⟩, ha.2⟩⟩
  · rcases ha.1.1.2 with h0 | ⟨g, cap, cur, hv, hg, hh, rest⟩
    · exact .inl h0
    · exact .inr ⟨g, cap, cur, hv, hg, (hk g hg (ha.2.1 g (by rw [hv]; rfl))).trans hh, rest⟩
  · obtain ⟨Ax, cx, hx, hi⟩ := ha.1.2 i ds hds
    refine ⟨Ax, cx, hx, hi.1, fun hn => ?_⟩
    obtain ⟨g, off, e, hg, hc⟩ := hi.2 hn
    have hg2 := ha.2.2 _ (List.mem_of_getElem? hx) g (by rw [e]; rfl)
    refine ⟨g, off, e, Nat.lt_of_lt_of_le hg hab, fun k d hd => (World.cell?_of_block ?_).trans (hc k d hd)⟩
    exact hk g hg2.1 hg2.2
theorem MkdF.cell {w : World} {base : Nat} {A : Option Addr} {n c k : Nat} {Fs : List Fac} {vs : List Value} {m : Int} (h : MkdF w base A n c Fs vs m) (hL : Fs.length = n) (hk : k < n) :
    ∃ (g : Nat) (F : Fac) (A1 : Option Addr) (c1 : Nat) (A2 : Option Addr) (c2 : Nat), A = some ⟨g, 0, none⟩ ∧ Fs[k]? = some F ∧ w.cell? ⟨g, k * 2, none⟩ = some (.slice A1 F.vs.length c1) ∧ w.cell? ⟨g, k * 2 + 1, none⟩ = some (.slice A2 F.ns.length c2) ∧ Ils w w.heap.size A1 F.vs.length (nums (m + offs (rowsF Fs) (k * 2)) F.vs.length) ∧ Ils w w.heap.size A2 F.ns.length (nums (m + offs (rowsF Fs) (k * 2 + 1)) F.ns.length) := by
  obtain ⟨F, hF⟩ : ∃ F, Fs[k]? = some F := ⟨_, List.getElem?_eq_getElem (by omega)⟩
  obtain ⟨r1, r2⟩ := rowsF_get hF
  obtain ⟨A1, c1, hx, hi⟩ := h.2 _ _ r1
  obtain ⟨A2, c2, hy, hj⟩ := h.2 _ _ r2
  rcases h.1.2 with ⟨hv, hn0⟩ | ⟨g, cap, cur, hv, _⟩
  · omega
  · injection hv with e1 _ _
    subst e1
    refine ⟨g, F, A1, c1, A2, c2, rfl, hF, ?_, ?_, hi, hj⟩
    · rw [← World.ownsRow.cells h.1 (g := g) rfl _ _ hx, cell_add]
    · rw [← World.ownsRow.cells h.1 (g := g) rfl _ _ hy, cell_add]
theorem offs_two {Fs : List Fac} {k : Nat} {F : Fac} (h : Fs[k]? = some F) : offs (rowsF Fs) (k * 2 + 1) = offs (rowsF Fs) (k * 2) + F.vs.length ∧ offs (rowsF Fs) ((k + 1) * 2) = offs (rowsF Fs) (k * 2) + F.vs.length + F.ns.length := by
  obtain ⟨r1, r2⟩ := rowsF_get h
  have h1 := offs_succ r1
  have h2 := offs_succ r2
  have e : (k + 1) * 2 = k * 2 + 1 + 1 := by omega
  rw [e, h2, h1]
  exact ⟨rfl, rfl⟩
theorem offs_mono_ (rs : List (List Int)) : ∀ d k : Nat, offs rs k ≤ offs rs (k + d)
  | 0, k => Nat.le_refl _
  | d + 1, k => by
    have ih := offs_mono_ rs d k
    cases h : rs[k + d]? with
    | none =>
      have hl := List.getElem?_eq_none_iff.1 h
      have e : offs rs (k + (d + 1)) = offs rs (k + d) := by
        unfold offs
        rw [List.take_of_length_le (by omega), List.take_of_length_le hl]
      rw [e]
      exact ih
    | some F =>
      have := offs_succ h
      have e : k + (d + 1) = k + d + 1 := by omega
      rw [e, this]
      omega
set_option maxHeartbeats 2000000 in
theorem markFactorS_any (A : Option Addr) (n c base : Nat) (Fs : List Fac) (vs : List Value) (m : Int) (w : World) (h : RowsF w base (.slice A n c) Fs vs) (ha : Apart vs) (hL : Fs.length = n) (hm : 0 ≤ m) (hm2 : m ≤ 1000000000) (hn : n ≤ 1048576) (ht : offs (rowsF Fs) (n * 2) ≤ 10000000) :
    Calls Try.prog 24 #[.slice A n c, .int .i64 m] w fun e w' => e = .returned (.int .i64 (m + offs (rowsF Fs) (n * 2))) ∧ MkdF w' base A n c Fs vs m ∧ KeptBut w w' (RowB vs (n * 2)) := by
  have hH := Lib.hid h
  have hap := Lib.hid ha
  have hof := Lib.hid (fun k (hk : k < n) => show offs (rowsF Fs) ((k + 1) * 2) ≤ 10000000 from by
    have := offs_mono_ (rowsF Fs) (n * 2 - (k + 1) * 2) ((k + 1) * 2)
    rw [show (k + 1) * 2 + (n * 2 - (k + 1) * 2) = n * 2 by omega] at this
    omega)
  have hvl := h.length
  have houter := Lib.hid (show ∀ (wr : World) (k : Nat), KeptBut w wr (RowB vs k) → wr.ownsRow base 36 2 (.slice A n c) n vs from fun wr k hk => by
    have := owns_but h.1 hk (fun b hb ⟨i, x, _, hx, hxb⟩ => by
      obtain ⟨ds, _, ho⟩ := h.2 i x hx
      obtain ⟨c1, h1⟩ := owns_has ho hxb
      obtain ⟨c2, h2⟩ := owns_has h.1 hb
      exact has_ne h1 h2 fac_ne_int rfl)
    rwa [hL] at this)
  clear h ha ht
  go_enter Try.func24, Try.ntmps24
  go_wp2_with fail
  go_loopg [1, 5] n (fun gn q i wr => ∃ k : Nat, k ≤ n ∧ gn = n - k ∧ i = .int .i64 k ∧ q = .int .i64 (m + offs (rowsF Fs) (k * 2)) ∧ KeptBut w wr (RowB vs (k * 2)) ∧ ∀ (j : Nat) (ds : List Int), j < k * 2 → (rowsF Fs)[j]? = some ds → ∃ Ax cx, vs[j]? = some (.slice Ax ds.length cx) ∧ Ils wr wr.heap.size Ax ds.length (nums (m + offs (rowsF Fs) j) ds.length))
  case atStart => exact ⟨0, Nat.zero_le _, rfl, rfl, by simp [offs_zero], KeptBut.refl _ _, fun j ds hj => absurd hj (by omega)⟩
  case round =>
    obtain ⟨k, hk, hgn, rfl, rfl, hK, hMk⟩ := hrel
    have hgk : gk = n - k := hgn
    have hKh := Lib.hid hK
    have hMh := Lib.hid hMk
    have hO := houter.out wr _ hK
    clear hMk hgn
    by_cases hlt : k < n
    · obtain ⟨g, F, A1, c1, A2, c2, hA, hFk, hv1, hv2, _, _, ho1, ho2, _⟩ := hH.out.at_ hL hlt
      subst hA
      obtain ⟨r1, r2⟩ := rowsF_get hFk
      have hk0 : (0 : Int) ≤ (k : Int) := by omega
      have hk1 : (k : Int) < (n : Int) := by omega
      obtain ⟨of1, of2⟩ := offs_two hFk
      have hok := hof.out k hlt
      rw [of2] at hok
      have hc1 : wr.cell? ⟨g, k * 2, none⟩ = some (.slice A1 F.vs.length c1) := by
        rw [← World.ownsRow.cells hO (g := g) rfl _ _ hv1, cell_add]
      have hx1 := ho1.but hK (fun b hb ⟨i, y, hi, hy, hyb⟩ => hap.out i (k * 2) y _ hi hy hv1 b hyb hb)
      have hx2 := ho2.but hK (fun b hb ⟨i, y, hi, hy, hyb⟩ => hap.out i (k * 2 + 1) y _ (by omega) hy hv2 b hyb hb)
      have hM1 := Lib.hid (markIntS_any A1 F.vs.length c1 (m + offs (rowsF Fs) (k * 2)) wr (iown_wr' hx1) (by omega) (by omega) (by omega))
      have hX2 := Lib.hid hx2
      have hV1 := Lib.hid hv1
      have hV2 := Lib.hid hv2
      have hR1 := Lib.hid r1
      have hR2 := Lib.hid r2
      have hne := Lib.hid (fun b (hb : (Value.slice A1 F.vs.length c1).ownBlock = some b) => hap.out (k * 2) (k * 2 + 1) _ _ (by omega) hv1 hv2 b hb)
      clear hx1 hx2 hK hO hv1 hv2 r1 r2
      go_wp2_with fail
      refine (hM1.out).mono ?_
      rintro e w5 ⟨rfl, ho5, hi5⟩
      have hK5 : KeptBut wr w5 (fun b => A1.map (·.block) = some b) := KeptBut.of_grown ho5 (fun k e => e)
      have hK5w := Lib.hid (show KeptBut w w5 (RowB vs (k * 2 + 1)) from KeptBut.trans (hKh.out.mono (fun b _ ⟨i, x, hi, hx⟩ => ⟨i, x, by omega, hx⟩)) hK5 (fun b _ hb => ⟨k * 2, _, Nat.lt_succ_self _, hV1.out, by rw [own_map]; exact hb⟩))
      have hO5 := houter.out w5 _ hK5w.out
      have hc2 : w5.cell? ⟨g, k * 2 + 1, none⟩ = some (.slice A2 F.ns.length c2) := by
        rw [← World.ownsRow.cells hO5 (g := g) rfl _ _ hV2.out, cell_add]
      have hx2 := hX2.out.but hK5 (fun b hb e => hne.out b (by rw [own_map]; exact e) hb)
      have hM2 := Lib.hid (markIntS_any A2 F.ns.length c2 (m + offs (rowsF Fs) (k * 2) + F.vs.length) w5 (iown_wr' hx2) (by omega) (by omega) (by omega))
      have hi5h := Lib.hid hi5
      have hMh5 := Lib.hid (show ∀ (j : Nat) (es : List Int), j < k * 2 → (rowsF Fs)[j]? = some es → ∃ Ay cy, vs[j]? = some (.slice Ay es.length cy) ∧ Ils w5 w5.heap.size Ay es.length (nums (m + offs (rowsF Fs) j) es.length) from fun j es hj hes => by
        obtain ⟨Ay, cy, hy, hil⟩ := hMh.out j es hj hes
        exact ⟨Ay, cy, hy, ils_but hil hK5 (fun b hb hb2 => hap.out j (k * 2) _ _ hj hy hV1.out b (by rw [own_map]; exact hb) (by rw [own_map]; exact hb2))⟩)
      have hc1w := hc1
      clear hO5 hx2 ho5 hi5 hK5 hc1w hc1
      go_wp2_with fail
      refine (hM2.out).mono ?_
      rintro e w6 ⟨rfl, ho6, hi6⟩
      have hK6 : KeptBut w5 w6 (fun b => A2.map (·.block) = some b) := KeptBut.of_grown ho6 (fun k e => e)
      have hrel6 := Lib.hid (show KeptBut w w6 (RowB vs ((k + 1) * 2)) ∧ ∀ (j : Nat) (es : List Int), j < (k + 1) * 2 → (rowsF Fs)[j]? = some es → ∃ Ay cy, vs[j]? = some (.slice Ay es.length cy) ∧ Ils w6 w6.heap.size Ay es.length (nums (m + offs (rowsF Fs) j) es.length) from by
        refine ⟨KeptBut.trans (hK5w.out.mono (fun b _ ⟨i, x, hi, hx⟩ => ⟨i, x, by omega, hx⟩)) hK6 (fun b _ hb => ⟨k * 2 + 1, _, by omega, hV2.out, by rw [own_map]; exact hb⟩), fun j es hj hes => ?_⟩
        by_cases hj2 : j = k * 2 + 1
        · subst hj2
          obtain rfl : F.ns = es := Option.some.inj (hR2.out.symm.trans hes)
          refine ⟨A2, c2, hV2.out, ?_⟩
          rw [of1]
          have e : m + ((offs (rowsF Fs) (k * 2) + F.vs.length : Nat) : Int) = m + offs (rowsF Fs) (k * 2) + F.vs.length := by omega
          rw [e]
          exact hi6
        · by_cases hj1 : j = k * 2
          · subst hj1
            obtain rfl : F.vs = es := Option.some.inj (hR1.out.symm.trans hes)
            exact ⟨A1, c1, hV1.out, ils_but hi5h.out hK6 (fun b hb hb2 => hne.out b (by rw [own_map]; exact hb) (by rw [own_map]; exact hb2))⟩
          · obtain ⟨Ay, cy, hy, hil⟩ := hMh5.out j es (by omega) hes
            exact ⟨Ay, cy, hy, ils_but hil hK6 (fun b hb hb2 => hap.out j (k * 2 + 1) _ _ (by omega) hy hV2.out b (by rw [own_map]; exact hb) (by rw [own_map]; exact hb2))⟩)
      clear ho6 hi6 hK6
      go_wp2_with fail
      go_roundg (n - (k + 1))
      case measure => omega
      case rel => exact ⟨k + 1, by omega, rfl, by go_num, congrArg (Value.int .i64) (by rw [of2]; omega), hrel6.out.1, hrel6.out.2⟩
    · obtain rfl : k = n := by omega
      have hF := Lib.hid (show MkdF wr base A k c Fs vs m from ⟨hO, fun i ds hds => hMh.out i ds (by have := (List.getElem?_eq_some_iff.1 hds).1; rw [rowsF_len] at this; omega) hds⟩)
      clear hO hK
      go_wp2_with fail
      go_ret
      exact ⟨rfl, hF.out, hKh.out⟩
set_option maxHeartbeats 1000000 in
theorem heldFactorS_any (A : Option Addr) (n c base : Nat) (Fs : List Fac) (vs : List Value) (m : Int) (w : World) (h : MkdF w base A n c Fs vs m) (hL : Fs.length = n) (hm : 0 ≤ m) (hm2 : m ≤ 1000000000) (hn : n ≤ 1048576) (ht : offs (rowsF Fs) (n * 2) ≤ 10000000) :
    Calls Try.prog 25 #[.slice A n c, .int .i64 m] w fun e w' => e = .returned (.int .i64 (m + offs (rowsF Fs) (n * 2))) ∧ w = w' := by
  have hH := Lib.hid h
  have hof := Lib.hid (fun k (hk : k < n) => show offs (rowsF Fs) ((k + 1) * 2) ≤ 10000000 from by
    have := offs_mono_ (rowsF Fs) (n * 2 - (k + 1) * 2) ((k + 1) * 2)
    rw [show (k + 1) * 2 + (n * 2 - (k + 1) * 2) = n * 2 by omega] at this
    omega)
  clear h ht
  go_enter Try.func25, Try.ntmps25
  go_wp2_with fail
  go_loopg [1, 5] n (fun gn q i wr => ∃ k : Nat, k ≤ n ∧ gn = n - k ∧ i = .int .i64 k ∧ q = .int .i64 (m + offs (rowsF Fs) (k * 2)) ∧ wr = w)
  case atStart => exact ⟨0, Nat.zero_le _, rfl, rfl, by simp [offs_zero], rfl⟩
  case round =>
    obtain ⟨k, hk, hgn, rfl, rfl, rfl⟩ := hrel
    have hgk : gk = n - k := hgn
    clear hgn
    by_cases hlt : k < n
    · obtain ⟨g, F, A1, c1, A2, c2, rfl, hFk, k1, k2, i1, i2⟩ := hH.out.cell hL hlt
      obtain ⟨r1, r2⟩ := rowsF_get hFk
      have hk0 : (0 : Int) ≤ (k : Int) := by omega
      have hk1 : (k : Int) < (n : Int) := by omega
      obtain ⟨of1, of2⟩ := offs_two hFk
      have hok := hof.out k hlt
      rw [of2] at hok
      rw [of1, show m + ((offs (rowsF Fs) (k * 2) + F.vs.length : Nat) : Int) = m + offs (rowsF Fs) (k * 2) + F.vs.length by omega] at i2
      have c1 := Lib.hid (heldIntS_any A1 F.vs.length c1 (m + offs (rowsF Fs) (k * 2)) wr i1 (by omega) (by omega) (by omega))
      have c2 := Lib.hid (heldIntS_any A2 F.ns.length c2 (m + offs (rowsF Fs) (k * 2) + F.vs.length) wr i2 (by omega) (by omega) (by omega))
      have hp1 : ¬ m + (offs (rowsF Fs) (k * 2) : Int) + (F.vs.length : Int) < 0 := by omega
      have hp2 : ¬ m + (offs (rowsF Fs) (k * 2) : Int) + (F.vs.length : Int) + (F.ns.length : Int) < 0 := by omega
      have hq := Lib.hid (show m + (offs (rowsF Fs) (k * 2) : Int) + (F.vs.length : Int) + (F.ns.length : Int) = m + offs (rowsF Fs) ((k + 1) * 2) by rw [of2]; omega)
      clear i1 i2 of1 of2 hFk r1 r2
      go_wp2_with fail
      refine c1.out.mono ?_
      rintro e w' ⟨rfl, rfl⟩
      go_wp2_with fail
      refine c2.out.mono ?_
      rintro e w' ⟨rfl, rfl⟩
      go_wp2_with fail
      go_roundg (n - (k + 1))
      case measure => omega
      case rel => exact ⟨k + 1, by omega, rfl, by go_num, by rw [hq.out], rfl⟩
    · obtain rfl : k = n := by omega
      go_wp2_with fail
      go_ret
      exact ⟨rfl, rfl⟩
end Go.Proofs.Ytaipdkfbkcknkaa
namespace Go.Proofs.Ytaipdkfbkcknkaa
set_option maxRecDepth 100000
set_option linter.unusedVariables false
open Go.RowKit
theorem offs_offF {Fs : List Fac} : ∀ {k : Nat}, k ≤ Fs.length → offs (rowsF Fs) (k * 2) = offF Fs k
  | 0, _ => by simp [offs_zero, offF]
  | k + 1, h => by
    have hF := List.getElem?_eq_getElem (l := Fs) (i := k) (by omega)
    rw [(offs_two hF).2, offs_offF (by omega), offF_succ hF]
    omega
theorem markG_pl (A : Option Addr) (n c lo hi : Nat) (m : Int) (Fs : List Fac) (vs : List Value) (w : World) (h : Pl (RsFB lo hi (.slice A n c) Fs vs) lo hi w) (ha : Apart vs) (hL : Fs.length = n) (hm : 0 ≤ m) (hm2 : m ≤ 1000000000) (hn : n ≤ 1048576) (ht : offs (rowsF Fs) (n * 2) ≤ 10000000) :
    Calls Try.prog 24 #[.slice A n c, .int .i64 m] w fun e w' => e = .returned (.int .i64 (m + offs (rowsF Fs) (n * 2))) ∧ KeptBut w w' (fun k => lo ≤ k ∧ k < hi) ∧ Pl (MkFB lo hi A n c Fs vs m) lo hi w' := by
  refine (markFactorS_any A n c lo Fs vs m w h.1.1 ha hL hm hm2 hn ht).mono ?_
  rintro e w1 ⟨rfl, hk, hb⟩
  exact ⟨rfl, hb.mono (fun k _ ⟨i, x, _, hx, hxk⟩ => h.1.2.2 x (List.mem_of_getElem? hx) k hxk), MkFB.pl hk h.1.2.1 h.1.2.2 (Nat.le_trans h.2.1 hb.size)⟩
end Go.Proofs.Ytaipdkfbkcknkaa
