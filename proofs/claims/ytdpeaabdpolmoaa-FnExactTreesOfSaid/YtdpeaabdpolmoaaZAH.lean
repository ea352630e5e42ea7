/- Parts of the proof: Gi. -/
import Derived.Test.YtdpeaabdpolmoaaZAG
namespace Go.Proofs.Ytdpeaabdpolmoaa
set_option maxRecDepth 100000
set_option linter.unusedVariables false
open Go.RowKit
set_option maxHeartbeats 1000000 in
theorem eqFactorS_same (A A2 : Option Addr) (n c c2 : Nat) (Fs : List Fac) (w : World) (h : FLst w w.heap.size A n Fs) (h2 : FLst w w.heap.size A2 n Fs) (hs : smallF Fs) (hn : n ≤ maxLen) :
    Calls Try.prog 19 #[.slice A n c, .slice A2 n c2] w fun e w' => e = .returned (.bool true) ∧ Below w.heap.size w w' := by
  have hI := Lib.hid h
  have hJ := Lib.hid h2
  have hSm := Lib.hid hs
  unfold maxLen at hn
  clear h h2 hs
  go_enter Try.func19, Try.ntmps19
  go_wp2_with fail
  go_loopg [5] n (fun gn v wr => ∃ k : Nat, k ≤ n ∧ gn = n - k ∧ v = .int .i64 k ∧ Below w.heap.size w wr)
  case atStart => exact ⟨0, Nat.zero_le _, rfl, rfl, Below.refl _ _⟩
  case round =>
    obtain ⟨k, hk, hgn, rfl, hB⟩ := hrel
    have hgk : gk = n - k := hgn
    have hBh := Lib.hid hB
    clear hgn
    by_cases hlt : k < n
    · obtain ⟨gl, off, F, B1, m1, e1, B2, m2, e2, rfl, hgl, hFk, cl1, cl2, hFW, hb1, hb2, hl1, hl2⟩ := (hI.out.below hB).bd hSm.out hlt
      obtain ⟨gm, ofg, F', D1, m3, e3, D2, m4, e4, rfl, hgm, hFk', cm1, cm2, hFW', hb3, hb4, hl3, hl4⟩ := (hJ.out.below hB).bd hSm.out hlt
      obtain rfl : F' = F := Option.some.inj (hFk'.symm.trans hFk)
      obtain rfl : m3 = m1 := by omega
      obtain rfl : m4 = m2 := by omega
      have hk0 : (0 : Int) ≤ (k : Int) := by omega
      have hk1 : (k : Int) < (n : Int) := by omega
      have hz := hB.size
      have hg1 : gl < wr.heap.size := by omega
      have hg2 : gm < wr.heap.size := by omega
      have hF0 := Lib.hid (hFW.more hz)
      have hH0 := Lib.hid (hFW'.more hz)
      have cE := Lib.hid (fun wx hx hy => eqFactor_same B1 B2 D1 D2 m3 e1 m4 e2 m3 e3 m4 e4 F' wx hx hy hb1 hb2)
      clear hFW hFW' hFk hFk' hB
      go_wp2_with fail
      refine wp_region_any (by kernel_rfl) ?_
      change wpAny _ _ _ _ _ _ _ (World.drew _)
      refine wpAny_last (n := 9) (I := fun listed aq wx => listed.size = 10 ∧ ∃ v17 v18 v19 v20 v21 v22 v23 v24 v25 : Value, aq = { tmps := #[.slice (some ⟨gl, off, none⟩) n c, .slice (some ⟨gm, ofg, none⟩) n c2, undef, undef, u4, .int .i64 ↑k, .slice (some ⟨gl, off, none⟩) n c, .int .i64 ↑n, .slice (some ⟨gm, ofg, none⟩) n c2, .int .i64 ↑n, .bool false, .int .i64 ↑k, .slice (some ⟨gl, off, none⟩) n c, .int .i64 ↑n, .bool true, u15, u16, v17, v18, v19, v20, v21, v22, v23, v24, v25, u26], defers := [] } ∧ (listed.getD 0 false = true → v17 = .slice (some ⟨gl, off, none⟩) n c) ∧ (listed.getD 1 false = true → v18 = .int .i64 ↑k) ∧ (listed.getD 2 false = true → v19 = .pointer (some ⟨gl, off + k * 2, none⟩)) ∧ (listed.getD 3 false = true → v20 = .agg #[.slice B1 m3 e1, .slice B2 m4 e2]) ∧ (listed.getD 4 false = true → v21 = .slice (some ⟨gm, ofg, none⟩) n c2) ∧ (listed.getD 5 false = true → v22 = .int .i64 ↑k) ∧ (listed.getD 6 false = true → v23 = .pointer (some ⟨gm, ofg + k * 2, none⟩)) ∧ (listed.getD 7 false = true → v24 = .agg #[.slice D1 m3 e3, .slice D2 m4 e4]) ∧ (listed.getD 8 false = true → v25 = .bool true) ∧ Below wr.heap.size wr wx) rfl (by kernel_rfl) (by kernel_rfl) ?hs ?hl _ _ _ ?st rfl (by decide) _ (by decide)
      case st =>
        refine ⟨rfl, u17, u18, u19, u20, u21, u22, u23, u24, u25, rfl, ?_, ?_, ?_, ?_, ?_, ?_, ?_, ?_, ?_, (Below.refl _ _).drew⟩ <;> (intro e; exact absurd e (by decide))
      case hs =>
        rintro listed aq wx ⟨hz, v17, v18, v19, v20, v21, v22, v23, v24, v25, rfl, hII⟩ i hin hi
        obtain ⟨h0, o, ho, hd⟩ := mem_ready.1 hi
        have K0 := Lib.hid hII.1
        have K1 := Lib.hid hII.2.1
        have K2 := Lib.hid hII.2.2.1
        have K3 := Lib.hid hII.2.2.2.1
        have K4 := Lib.hid hII.2.2.2.2.1
        have K5 := Lib.hid hII.2.2.2.2.2.1
        have K6 := Lib.hid hII.2.2.2.2.2.2.1
        have K7 := Lib.hid hII.2.2.2.2.2.2.2.1
        have K8 := Lib.hid hII.2.2.2.2.2.2.2.2.1
        have hB : Below wr.heap.size wr wx := hII.2.2.2.2.2.2.2.2.2
        have hne := Lib.hid (fun k (hk : i ≠ k) => @listed_ne listed i k hk)
        clear hII hi h0
        rcases (by omega : i = 0 ∨ i = 1 ∨ i = 2 ∨ i = 3 ∨ i = 4 ∨ i = 5 ∨ i = 6 ∨ i = 7 ∨ i = 8) with rfl | rfl | rfl | rfl | rfl | rfl | rfl | rfl | rfl
        · cases ho
          refine wpOp_step rfl (fun K hK => ?_)
          go_simp
          refine hK _ _ ⟨by simpa using hz, .slice (some ⟨gl, off, none⟩) n c, v18, v19, v20, v21, v22, v23, v24, v25, rfl, ?_⟩
          exact ⟨fun _ => rfl, fun e => K1.out (hne.out 1 (by decide) e), fun e => K2.out (hne.out 2 (by decide) e), fun e => K3.out (hne.out 3 (by decide) e), fun e => K4.out (hne.out 4 (by decide) e), fun e => K5.out (hne.out 5 (by decide) e), fun e => K6.out (hne.out 6 (by decide) e), fun e => K7.out (hne.out 7 (by decide) e), fun e => K8.out (hne.out 8 (by decide) e), hB⟩
        · cases ho
          refine wpOp_step rfl (fun K hK => ?_)
          go_simp
          refine hK _ _ ⟨by simpa using hz, v17, .int .i64 ↑k, v19, v20, v21, v22, v23, v24, v25, rfl, ?_⟩
          exact ⟨fun e => K0.out (hne.out 0 (by decide) e), fun _ => rfl, fun e => K2.out (hne.out 2 (by decide) e), fun e => K3.out (hne.out 3 (by decide) e), fun e => K4.out (hne.out 4 (by decide) e), fun e => K5.out (hne.out 5 (by decide) e), fun e => K6.out (hne.out 6 (by decide) e), fun e => K7.out (hne.out 7 (by decide) e), fun e => K8.out (hne.out 8 (by decide) e), hB⟩
        · cases ho
          have d0 := hd ⟨0, .data⟩ (by simp) rfl
          have d1 := hd ⟨1, .data⟩ (by simp) rfl
          obtain rfl := K0.out d0
          obtain rfl := K1.out d1
          refine wpOp_step rfl (fun K hK => ?_)
          go_simp
          refine hK _ _ ⟨by simpa using hz, .slice (some ⟨gl, off, none⟩) n c, .int .i64 ↑k, .pointer (some ⟨gl, off + k * 2, none⟩), v20, v21, v22, v23, v24, v25, rfl, ?_⟩
          exact ⟨fun e => K0.out (hne.out 0 (by decide) e), fun e => K1.out (hne.out 1 (by decide) e), fun _ => rfl, fun e => K3.out (hne.out 3 (by decide) e), fun e => K4.out (hne.out 4 (by decide) e), fun e => K5.out (hne.out 5 (by decide) e), fun e => K6.out (hne.out 6 (by decide) e), fun e => K7.out (hne.out 7 (by decide) e), fun e => K8.out (hne.out 8 (by decide) e), hB⟩
        · cases ho
          have d2 := hd ⟨2, .data⟩ (by simp) rfl
          obtain rfl := K2.out d2
          have hca := (hB.cell (p := ⟨gl, off + k * 2, none⟩) hg1).trans cl1
          have hcb := (hB.cell (p := ⟨gl, off + k * 2 + 1, none⟩) hg1).trans cl2
          refine wpOp_step rfl (fun K hK => ?_)
          go_simp
          refine hK _ _ ⟨by simpa using hz, v17, v18, .pointer (some ⟨gl, off + k * 2, none⟩), .agg #[.slice B1 m3 e1, .slice B2 m4 e2], v21, v22, v23, v24, v25, rfl, ?_⟩
          exact ⟨fun e => K0.out (hne.out 0 (by decide) e), fun e => K1.out (hne.out 1 (by decide) e), fun e => K2.out (hne.out 2 (by decide) e), fun _ => rfl, fun e => K4.out (hne.out 4 (by decide) e), fun e => K5.out (hne.out 5 (by decide) e), fun e => K6.out (hne.out 6 (by decide) e), fun e => K7.out (hne.out 7 (by decide) e), fun e => K8.out (hne.out 8 (by decide) e), hB⟩
        · cases ho
          refine wpOp_step rfl (fun K hK => ?_)
          go_simp
          refine hK _ _ ⟨by simpa using hz, v17, v18, v19, v20, .slice (some ⟨gm, ofg, none⟩) n c2, v22, v23, v24, v25, rfl, ?_⟩
          exact ⟨fun e => K0.out (hne.out 0 (by decide) e), fun e => K1.out (hne.out 1 (by decide) e), fun e => K2.out (hne.out 2 (by decide) e), fun e => K3.out (hne.out 3 (by decide) e), fun _ => rfl, fun e => K5.out (hne.out 5 (by decide) e), fun e => K6.out (hne.out 6 (by decide) e), fun e => K7.out (hne.out 7 (by decide) e), fun e => K8.out (hne.out 8 (by decide) e), hB⟩
        · cases ho
          refine wpOp_step rfl (fun K hK => ?_)
          go_simp
          refine hK _ _ ⟨by simpa using hz, v17, v18, v19, v20, v21, .int .i64 ↑k, v23, v24, v25, rfl, ?_⟩
          exact ⟨fun e => K0.out (hne.out 0 (by decide) e), fun e => K1.out (hne.out 1 (by decide) e), fun e => K2.out (hne.out 2 (by decide) e), fun e => K3.out (hne.out 3 (by decide) e), fun e => K4.out (hne.out 4 (by decide) e), fun _ => rfl, fun e => K6.out (hne.out 6 (by decide) e), fun e => K7.out (hne.out 7 (by decide) e), fun e => K8.out (hne.out 8 (by decide) e), hB⟩
        · cases ho
          have d4 := hd ⟨4, .data⟩ (by simp) rfl
          have d5 := hd ⟨5, .data⟩ (by simp) rfl
          obtain rfl := K4.out d4
          obtain rfl := K5.out d5
          refine wpOp_step rfl (fun K hK => ?_)
          go_simp
          refine hK _ _ ⟨by simpa using hz, v17, v18, v19, v20, .slice (some ⟨gm, ofg, none⟩) n c2, .int .i64 ↑k, .pointer (some ⟨gm, ofg + k * 2, none⟩), v24, v25, rfl, ?_⟩
          exact ⟨fun e => K0.out (hne.out 0 (by decide) e), fun e => K1.out (hne.out 1 (by decide) e), fun e => K2.out (hne.out 2 (by decide) e), fun e => K3.out (hne.out 3 (by decide) e), fun e => K4.out (hne.out 4 (by decide) e), fun e => K5.out (hne.out 5 (by decide) e), fun _ => rfl, fun e => K7.out (hne.out 7 (by decide) e), fun e => K8.out (hne.out 8 (by decide) e), hB⟩
        · cases ho
          have d6 := hd ⟨6, .data⟩ (by simp) rfl
          obtain rfl := K6.out d6
          have hca := (hB.cell (p := ⟨gm, ofg + k * 2, none⟩) hg2).trans cm1
          have hcb := (hB.cell (p := ⟨gm, ofg + k * 2 + 1, none⟩) hg2).trans cm2
          refine wpOp_step rfl (fun K hK => ?_)
          go_simp
          refine hK _ _ ⟨by simpa using hz, v17, v18, v19, v20, v21, v22, .pointer (some ⟨gm, ofg + k * 2, none⟩), .agg #[.slice D1 m3 e3, .slice D2 m4 e4], v25, rfl, ?_⟩
          exact ⟨fun e => K0.out (hne.out 0 (by decide) e), fun e => K1.out (hne.out 1 (by decide) e), fun e => K2.out (hne.out 2 (by decide) e), fun e => K3.out (hne.out 3 (by decide) e), fun e => K4.out (hne.out 4 (by decide) e), fun e => K5.out (hne.out 5 (by decide) e), fun e => K6.out (hne.out 6 (by decide) e), fun _ => rfl, fun e => K8.out (hne.out 8 (by decide) e), hB⟩
        · cases ho
          have d3 := hd ⟨3, .data⟩ (by simp) rfl
          have d7 := hd ⟨7, .data⟩ (by simp) rfl
          obtain rfl := K3.out d3
          obtain rfl := K7.out d7
          refine wpOp_step rfl (fun K hK => ?_)
          go_simp
          go_at_call 54
          refine (cE.out _ ((hF0.out.keep_ hB).more hB.size) ((hH0.out.keep_ hB).more hB.size)).mono ?_
          rintro e w3 ⟨rfl, hb3⟩
          refine hK _ _ ⟨by simpa using hz, v17, v18, v19, .agg #[.slice B1 m3 e1, .slice B2 m4 e2], v21, v22, v23, .agg #[.slice D1 m3 e3, .slice D2 m4 e4], .bool true, rfl, ?_⟩
          exact ⟨fun e => K0.out (hne.out 0 (by decide) e), fun e => K1.out (hne.out 1 (by decide) e), fun e => K2.out (hne.out 2 (by decide) e), fun e => K3.out (hne.out 3 (by decide) e), fun e => K4.out (hne.out 4 (by decide) e), fun e => K5.out (hne.out 5 (by decide) e), fun e => K6.out (hne.out 6 (by decide) e), fun e => K7.out (hne.out 7 (by decide) e), fun _ => rfl, hB.trans (hb3.mono hB.size)⟩
      case hl =>
        rintro listed aq wx ⟨hz, v17, v18, v19, v20, v21, v22, v23, v24, v25, rfl, hII⟩ hall
        have K0 := Lib.hid hII.1
        have K1 := Lib.hid hII.2.1
        have K2 := Lib.hid hII.2.2.1
        have K3 := Lib.hid hII.2.2.2.1
        have K4 := Lib.hid hII.2.2.2.2.1
        have K5 := Lib.hid hII.2.2.2.2.2.1
        have K6 := Lib.hid hII.2.2.2.2.2.2.1
        have K7 := Lib.hid hII.2.2.2.2.2.2.2.1
        have K8 := Lib.hid hII.2.2.2.2.2.2.2.2.1
        have hB : Below wr.heap.size wr wx := hII.2.2.2.2.2.2.2.2.2
        clear hII
        obtain rfl := K0.out (hall 0 (by decide))
        obtain rfl := K1.out (hall 1 (by decide))
        obtain rfl := K2.out (hall 2 (by decide))
        obtain rfl := K3.out (hall 3 (by decide))
        obtain rfl := K4.out (hall 4 (by decide))
        obtain rfl := K5.out (hall 5 (by decide))
        obtain rfl := K6.out (hall 6 (by decide))
        obtain rfl := K7.out (hall 7 (by decide))
        obtain rfl := K8.out (hall 8 (by decide))
        clear hall K0 K1 K2 K3 K4 K5 K6 K7 K8
        refine wpOp_step rfl (fun K0 hK0 => ?_)
        go_simp
        refine hK0 _ _ ?_
        clear hK0
        have hB3 := Lib.hid (hBh.out.trans (hB.mono hBh.out.size))
        clear hB
        go_wp2_with fail
        go_roundg (n - (k + 1))
        case measure => omega
        case rel => exact ⟨k + 1, by omega, rfl, by go_num, hB3.out⟩
    · obtain rfl : k = n := by omega
      go_wp2_with fail
      go_ret
      exact ⟨rfl, hBh.out⟩
/-- A list of factors that a call has made: the outer cells are vs. -/
def RowsF (w : World) (base : Nat) (v : Value) (Fs : List Fac) (vs : List Value) : Prop :=
  w.ownsRow base 44 2 v Fs.length vs ∧ ∀ (i : Nat) (x : Value), vs[i]? = some x → ∃ ds, (rowsF Fs)[i]? = some ds ∧ IOwn w base x ds
theorem fac_ne_int : (3 : TypeId) ≠ 44 := by decide
theorem RowsF.nil (w : World) (base : Nat) : RowsF w base (.slice none 0 0) [] [] := ⟨World.ownsRow_nil w base _ _, fun i x h => by simp at h⟩
theorem RowsF.length {w : World} {base : Nat} {v : Value} {Fs : List Fac} {vs : List Value} (h : RowsF w base v Fs vs) : vs.length = Fs.length * 2 := h.1.1
theorem RowsF.but {w w' : World} {base : Nat} {v : Value} {Fs : List Fac} {vs : List Value} {S : Nat → Prop} (h : RowsF w base v Fs vs) (hk : KeptBut w w' S) (hn : ∀ k, v.ownBlock = some k → ¬ S k) (hi : ∀ k cur, Has w k 3 cur → base ≤ k → (∃ x ∈ vs, x.ownBlock = some k) → ¬ S k) : RowsF w' base v Fs vs := by
  refine ⟨owns_but h.1 hk hn, fun i x hx => ?_⟩
  obtain ⟨ds, hd, ho⟩ := h.2 i x hx
  refine ⟨ds, hd, ho.but hk fun k hkb => ?_⟩
  obtain ⟨cur, hc⟩ := owns_has ho hkb
  exact hi k cur hc (World.ownsRow.lt ho k hkb).1 ⟨x, List.mem_of_getElem? hx, hkb⟩
theorem RowsF.below {w w' : World} {base : Nat} {v : Value} {Fs : List Fac} {vs : List Value} (h : RowsF w base v Fs vs) (hb : Below w.heap.size w w') : RowsF w' base v Fs vs :=
  h.but (KeptBut.of_below hb (fun _ => False)) (fun _ _ e => e) (fun _ _ _ _ _ e => e)
theorem RowsF.form {w : World} {base : Nat} {v : Value} {Fs : List Fac} {vs : List Value} (h : RowsF w base v Fs vs) : ∃ A c, v = .slice A Fs.length c ∧ Fs.length ≤ c ∧ c ≤ maxLen := by
  rcases h.1.2 with ⟨hv, hn⟩ | ⟨g, cap, cur, hv, _, _, h1, h2, _⟩
  · exact ⟨none, 0, by rw [hv, hn], by omega, by simp [maxLen]⟩
  · exact ⟨_, cap, hv, h1, h2⟩
theorem cell_add {w : World} {g k : Nat} : w.cell? ((⟨g, 0, none⟩ : Addr).add k) = w.cell? ⟨g, k, none⟩ := by
  congr 1
  unfold Addr.add
  split
  · (rename_i h0; simp at h0 ⊢; try omega)
  · (simp; try omega)
theorem RowsF.at_ {w : World} {base : Nat} {A : Option Addr} {n c k : Nat} {Fs : List Fac} {vs : List Value} (h : RowsF w base (.slice A n c) Fs vs) (hn : Fs.length = n) (hk : k < n) :
    ∃ (g : Nat) (F : Fac) (A1 : Option Addr) (c1 : Nat) (A2 : Option Addr) (c2 : Nat), A = some ⟨g, 0, none⟩ ∧ Fs[k]? = some F ∧ vs[k * 2]? = some (.slice A1 F.vs.length c1) ∧ vs[k * 2 + 1]? = some (.slice A2 F.ns.length c2) ∧ w.cell? ⟨g, k * 2, none⟩ = some (.slice A1 F.vs.length c1) ∧ w.cell? ⟨g, k * 2 + 1, none⟩ = some (.slice A2 F.ns.length c2) ∧ IOwn w base (.slice A1 F.vs.length c1) F.vs ∧ IOwn w base (.slice A2 F.ns.length c2) F.ns ∧ g < w.heap.size := by
  have hvl := h.length
  obtain ⟨F, hF⟩ : ∃ F, Fs[k]? = some F := ⟨_, List.getElem?_eq_getElem (by omega)⟩
  obtain ⟨r1, r2⟩ := rowsF_get hF
  obtain ⟨x, hx⟩ : ∃ x, vs[k * 2]? = some x := ⟨_, List.getElem?_eq_getElem (by omega)⟩
  obtain ⟨y, hy⟩ : ∃ y, vs[k * 2 + 1]? = some y := ⟨_, List.getElem?_eq_getElem (by omega)⟩
  obtain ⟨ds, hds, hxo⟩ := h.2 _ x hx
  obtain ⟨es, hes, hyo⟩ := h.2 _ y hy
  obtain rfl : F.vs = ds := Option.some.inj (r1.symm.trans hds)
  obtain rfl : F.ns = es := Option.some.inj (r2.symm.trans hes)
  obtain ⟨A1, c1, rfl, _, _⟩ := IOwn.form hxo
  obtain ⟨A2, c2, rfl, _, _⟩ := IOwn.form hyo
  rcases h.1.2 with ⟨hv, hn0⟩ | ⟨g, cap, cur, hv, _⟩
  · omega
  · injection hv with e1 _ _
    subst e1
    refine ⟨g, F, A1, c1, A2, c2, rfl, hF, hx, hy, ?_, ?_, hxo, hyo, (World.ownsRow.lt h.1 g rfl).2⟩
    · rw [← World.ownsRow.cells h.1 (g := g) rfl _ _ hx, cell_add]
    · rw [← World.ownsRow.cells h.1 (g := g) rfl _ _ hy, cell_add]
theorem RowsF.flst {w : World} {base : Nat} {A : Option Addr} {n c : Nat} {Fs : List Fac} {vs : List Value} (h : RowsF w base (.slice A n c) Fs vs) (hn : Fs.length = n) : FLst w w.heap.size A n Fs := by
  refine ⟨hn, fun h0 => ?_⟩
  obtain ⟨g, _, _, _, _, _, e, _, _, _, _, _, _, _, hg⟩ := h.at_ hn h0
  refine ⟨g, 0, e, hg, fun k F hF => ?_⟩
  have hk : k < n := by have := (List.getElem?_eq_some_iff.1 hF).1; omega
  obtain ⟨g', F', A1, c1, A2, c2, e', hF', _, _, h1, h2, h3, h4, _⟩ := h.at_ hn hk
  obtain rfl : F' = F := Option.some.inj (hF'.symm.trans hF)
  obtain rfl : g' = g := by rw [e] at e'; injection e' with e'; injection e' with e' _ _; exact e'.symm
  rw [Nat.zero_add]
  exact ⟨A1, _, c1, A2, _, c2, h1, h2, h3.lst, h4.lst⟩
end Go.Proofs.Ytdpeaabdpolmoaa
