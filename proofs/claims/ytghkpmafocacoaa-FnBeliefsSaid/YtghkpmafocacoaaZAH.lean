/- Parts of the proof: Fk. -/
import Derived.Test.YtghkpmafocacoaaZAG
import Derived.Test.YtghkpmafocacoaaZAC
namespace Go.Proofs.Ytghkpmafocacoaa
set_option maxRecDepth 100000
set_option linter.unusedVariables false
open Go.RowKit
/-- A slice reads as factors, all below block B. -/
def FLst (w : World) (B : Nat) (A : Option Addr) (n : Nat) (Fs : List Fac) : Prop :=
  Fs.length = n ∧ (0 < n → ∃ g off, A = some ⟨g, off, none⟩ ∧ g < B ∧ ∀ k F, Fs[k]? = some F → ∃ (A1 : Option Addr) (n1 c1 : Nat) (A2 : Option Addr) (n2 c2 : Nat), w.cell? ⟨g, off + k * 2, none⟩ = some (.slice A1 n1 c1) ∧ w.cell? ⟨g, off + k * 2 + 1, none⟩ = some (.slice A2 n2 c2) ∧ FacW w B A1 n1 A2 n2 F)
theorem FacW.keep_ {w w' : World} {B n1 n2 : Nat} {A1 A2 : Option Addr} {F : Fac} (h : FacW w B A1 n1 A2 n2 F) (hb : Below B w w') : FacW w' B A1 n1 A2 n2 F := ⟨h.1.below hb, h.2.below hb⟩
theorem FacW.more {w : World} {B B' n1 n2 : Nat} {A1 A2 : Option Addr} {F : Fac} (h : FacW w B A1 n1 A2 n2 F) (hb : B ≤ B') : FacW w B' A1 n1 A2 n2 F := ⟨h.1.more hb, h.2.more hb⟩
theorem FLst.below {w w' : World} {B n : Nat} {A : Option Addr} {Fs : List Fac} (h : FLst w B A n Fs) (hb : Below B w w') : FLst w' B A n Fs := ⟨h.1, fun hn => by
  obtain ⟨g, off, e, hg, hc⟩ := h.2 hn
  refine ⟨g, off, e, hg, fun k F hF => ?_⟩
  obtain ⟨A1, n1, c1, A2, n2, c2, h1, h2, h3⟩ := hc k F hF
  exact ⟨A1, n1, c1, A2, n2, c2, (hb.cell (p := ⟨g, _, none⟩) hg).trans h1, (hb.cell (p := ⟨g, _, none⟩) hg).trans h2, h3.keep_ hb⟩⟩
theorem FLst.more {w : World} {B B' n : Nat} {A : Option Addr} {Fs : List Fac} (h : FLst w B A n Fs) (hb : B ≤ B') : FLst w B' A n Fs := ⟨h.1, fun hn => by
  obtain ⟨g, off, e, hg, hc⟩ := h.2 hn
  refine ⟨g, off, e, by omega, fun k F hF => ?_⟩
  obtain ⟨A1, n1, c1, A2, n2, c2, h1, h2, h3⟩ := hc k F hF
  exact ⟨A1, n1, c1, A2, n2, c2, h1, h2, h3.more hb⟩⟩
theorem FLst.at_ {w : World} {B n k : Nat} {A : Option Addr} {Fs : List Fac} (h : FLst w B A n Fs) (hk : k < n) :
    ∃ (g off : Nat) (F : Fac) (A1 : Option Addr) (n1 c1 : Nat) (A2 : Option Addr) (n2 c2 : Nat), A = some ⟨g, off, none⟩ ∧ g < B ∧ Fs[k]? = some F ∧ w.cell? ⟨g, off + k * 2, none⟩ = some (.slice A1 n1 c1) ∧ w.cell? ⟨g, off + k * 2 + 1, none⟩ = some (.slice A2 n2 c2) ∧ FacW w B A1 n1 A2 n2 F := by
  obtain ⟨g, off, e, hg, hc⟩ := h.2 (by omega)
  have hl : k < Fs.length := by have := h.1; omega
  obtain ⟨A1, n1, c1, A2, n2, c2, h1, h2, h3⟩ := hc k _ (List.getElem?_eq_getElem hl)
  exact ⟨g, off, Fs[k], A1, n1, c1, A2, n2, c2, e, hg, List.getElem?_eq_getElem hl, h1, h2, h3⟩
/-- The numbers while they are filled in. -/
def facFill (L : Int) (g : Int → Int) (M k : Nat) : List Int := facPre L g k ++ zs (M - k)
theorem facFill_len {L : Int} {g : Int → Int} {M k : Nat} (h : k ≤ M) : (facFill L g M k).length = M := by unfold facFill; rw [List.length_append, facPre_len, zs_len]; omega
theorem facFill_set {L : Int} {g : Int → Int} {M k : Nat} (h : k < M) (x : Int) : (facFill L g M k).set k x = facPre L g k ++ (x :: zs (M - (k + 1))) := by
  unfold facFill
  rw [List.set_append_right _ _ (by rw [facPre_len]; exact Nat.le_refl _), facPre_len, Nat.sub_self]
  have e : M - k = M - (k + 1) + 1 := by omega
  rw [e]
  rfl
theorem facFill_next {L : Int} {g : Int → Int} {M k : Nat} (h : k < M) : (facFill L g M k).set k (g (stOf (over L) (k : Int))) = facFill L g M (k + 1) := by
  rw [facFill_set h]
  unfold facFill
  rw [facPre_succ, List.append_assoc]
  rfl
theorem facFill_all (L : Int) (g : Int → Int) : facFill L g (3 ^ (over L).length) (3 ^ (over L).length) = (facBy_ L g).ns := by
  unfold facFill
  rw [Nat.sub_self, facPre_all]
  exact List.append_nil _
/-- A factor in a variable of the call's own, while its numbers are filled in. -/
def FacN (w wr : World) (G : Nat) (v1 v2 : Value) (vs ds : List Int) : Prop :=
  IOwn wr w.heap.size v2 ds ∧ IOwn wr w.heap.size v1 vs ∧ Has wr G 56 #[v1, v2] ∧ Has wr w.heap.size 56 #[.slice none 0 0, .slice none 0 0] ∧ Below w.heap.size w wr
theorem FacN.below {w wr wx : World} {G : Nat} {v1 v2 : Value} {vs ds : List Int} (h : FacN w wr G v1 v2 vs ds) (hb : Below wr.heap.size wr wx) : FacN w wx G v1 v2 vs ds :=
  ⟨h.1.below hb, h.2.1.below hb, h.2.2.1.kept hb, h.2.2.2.1.kept hb, h.2.2.2.2.trans (hb.mono h.2.2.2.2.size)⟩
theorem FacN.put {w wr : World} {G g2 Q c2 j : Nat} {v1 : Value} {vs ds : List Int} (h : FacN w wr G v1 (.slice (some ⟨g2, 0, none⟩) Q c2) vs ds) (hd : v1.ownBlock ≠ some g2) (hl : ds.length = Q) (hj : j < Q) (hg : w.heap.size ≤ g2) (x : Int) :
    FacN w (wr.setCell ⟨g2, j, none⟩ (.int .i64 x)) G v1 (.slice (some ⟨g2, 0, none⟩) Q c2) vs (ds.set j x) := by
  obtain ⟨h1, h2, h3, h4, h5⟩ := h
  have hk : KeptBut wr (wr.setCell ⟨g2, j, none⟩ (.int .i64 x)) (fun i => i = g2) := (KeptBut.refl wr (fun i => i = g2)).put (p := ⟨g2, j, none⟩) (fun _ => rfl) _
  refine ⟨?_, h2.but hk (fun k e1 e2 => hd (e2 ▸ e1)), h3.but hk (fun e => ?_), h4.but hk (fun e => ?_), h5.setCell (p := ⟨g2, j, none⟩) hg _⟩
  · unfold IOwn at h1 ⊢
    rw [List.length_set, hl] at *
    exact owns_set h1 hj
  · exact iown_ne h1 h3 (by decide) g2 (by simp [Value.ownBlock]) e.symm
  · exact iown_ne h1 h4 (by decide) g2 (by simp [Value.ownBlock]) e.symm
theorem FacN.cell {w wr : World} {G g2 Q c2 j : Nat} {v1 : Value} {vs ds : List Int} {d : Int} (h : FacN w wr G v1 (.slice (some ⟨g2, 0, none⟩) Q c2) vs ds) (hl : ds.length = Q) (hj : ds[j]? = some d) : wr.cell? ⟨g2, j, none⟩ = some (.int .i64 d) ∧ wr.frozen? ⟨g2, j, none⟩ = false := by
  have hjl := (List.getElem?_eq_some_iff.1 hj).1
  have h1 := h.1
  unfold IOwn at h1
  rw [hl] at h1
  obtain ⟨b, cur, e, _, hh, _, _, _, hc⟩ := owns_open h1 (by omega)
  injection e with e
  injection e with e _ _
  subst e
  refine ⟨?_, hh.frozen j⟩
  rw [hc j (by omega)]
  exact ints_get hj
set_option maxHeartbeats 2000000 in
theorem timesOver_any (A : Option Addr) (n c : Nat) (Fs : List Fac) (L M : Int) (w : World) (h : FLst w w.heap.size A n Fs) (hn : n ≤ maxLen) (hL : 0 ≤ L ∧ L ≤ 15) (hM : 1 ≤ M) (hF : ∀ F ∈ Fs, facOk M F = true) (hT : ∀ k, k ≤ n → M ^ k ≤ 1000000000000000000) :
    Calls Try.prog 109 #[.slice A n c, .int .i64 L] w (Fcd w (facBy_ L (prodAt Fs))) := by
  have hlen := h.1
  have hB0 : Below w.heap.size w (w.alloc (.cells #[.slice none 0 0, .slice none 0 0] 56)) := (Below.refl _ _).alloc (Nat.le_refl _) _
  have hR0 := Lib.hid (Has.new w 56 #[.slice none 0 0, .slice none 0 0])
  have cO := Lib.hid (fun wx => blankOver_any L wx hL)
  have cU := Lib.hid (fun x (hx : 0 ≤ x ∧ x ≤ 80) wx => countedUp_any x L wx hx hL)
  have hI := Lib.hid h
  have hFh := Lib.hid hF
  have hTh := Lib.hid hT
  have hLh := Lib.hid hL
  have hB0h := Lib.hid hB0
  have hlb := over_len hL
  have hpb := pow_four hlb
  have hp1 : 0 < 3 ^ (over L).length := Nat.pow_pos (by decide)
  have hall := Lib.hid (facFill_all L (prodAt Fs))
  unfold maxLen at hn
  clear h hF hT hL hB0
  go_enter Try.func109, Try.ntmps109
  go_wp2_with fail
  generalize w.alloc (.cells #[.slice none 0 0, .slice none 0 0] 56) = W0 at hR0 hB0h ⊢
  refine (cO.out _).mono ?_
  rintro e w1 ⟨v1, v2, rfl, ⟨hv1, hv2, hvd⟩, hb1⟩
  obtain ⟨A1, c1, rfl, _, _⟩ := hv1.form
  have hz0 := hB0h.out.size
  have hv2' : IOwn w1 w.heap.size v2 (blankF L).ns := owns_le hv2 hz0
  have hv1' : IOwn w1 w.heap.size (.slice A1 (blankF L).vs.length c1) (blankF L).vs := owns_le hv1 hz0
  have hbl : (blankF L).ns.length = 3 ^ (over L).length := by unfold blankF; exact zs_len _
  obtain ⟨A2, c2, rfl, _, _⟩ := hv2.form
  rw [hbl] at hv2' hvd ⊢
  generalize hMM : 3 ^ (over L).length = Q at *
  have hB1 := Lib.hid (hB0h.out.trans (hb1.mono hz0))
  have hR1 := Lib.hid (hR0.out.kept hb1)
  have hbn : (blankF L).ns = zs Q := by unfold blankF; rw [hMM]
  rw [hbn] at hv2'
  rw [show (blankF L).vs = over L from rfl] at hv1' hvd ⊢
  have hv2o : w1.ownsRow w.heap.size 3 1 (.slice A2 Q c2) Q (ints (zs Q)) := by
    have h1 := hv2'
    unfold IOwn at h1
    rwa [zs_len] at h1
  obtain ⟨g2, cur2, rfl, hg2, _, hc2a, hc2b, _, _⟩ := owns_open hv2o hp1
  clear hv2o
  have hd2 := Lib.hid (fun (e : (Value.slice A1 (over L).length c1).ownBlock = some g2) => hvd g2 e (by simp [Value.ownBlock]))
  have hN0 := Lib.hid (show FacN w _ w1.heap.size (.slice A1 (over L).length c1) (.slice (some ⟨g2, 0, none⟩) Q c2) (over L) (zs Q) from ⟨hv2'.alloc (.cells #[.slice A1 (over L).length c1, .slice (some ⟨g2, 0, none⟩) Q c2] 56), hv1'.alloc _, Has.new w1 _ _, hR1.out.alloc _, hB1.out.alloc hB1.out.size _⟩)
  have hst0 := Lib.hid (stOf_zero (L := L) (over L) (over_in hLh.out))
  clear hv1 hv2 hv1' hv2' hvd hbn hbl hb1
  go_wp2_with fail
  generalize w1.alloc (.cells #[.slice A1 (over L).length c1, .slice (some ⟨g2, 0, none⟩) Q c2] 56) = W2 at hN0 ⊢
  generalize w1.heap.size = G at hN0 ⊢
  go_loopg [6, 15] Q (fun gn o v wr => ∃ k : Nat, k ≤ Q ∧ gn = Q - k ∧ v = .int .i64 k ∧ o = .int .i64 (stOf (over L) (k : Int)) ∧ FacN w wr G (.slice A1 (over L).length c1) (.slice (some ⟨g2, 0, none⟩) Q c2) (over L) (facFill L (prodAt Fs) Q k))
  case atStart => exact ⟨0, Nat.zero_le _, rfl, rfl, by rw [show ((0 : Nat) : Int) = 0 from rfl, hst0.out], hN0.out⟩
  case round =>
    obtain ⟨k, hk, hgn, rfl, rfl, hN⟩ := hrel
    have hgk : gk = Q - k := hgn
    have hNh := Lib.hid hN
    clear hgn hN
    by_cases hlt : k < Q
    · have hfl := facFill_len (L := L) (g := prodAt Fs) hk
      obtain ⟨d0, hd0⟩ : ∃ d0, (facFill L (prodAt Fs) Q k)[k]? = some d0 := ⟨_, List.getElem?_eq_getElem (by omega)⟩
      obtain ⟨c0, f0⟩ := hNh.out.cell hfl hd0
      have cA := hNh.out.2.2.1.cell
      have hk0 : (0 : Int) ≤ (k : Int) := by omega
      have hk1 : (k : Int) < (Q : Int) := by omega
      have hsb := stOver_bd hLh.out (i := k)
      have hnx := Lib.hid (facFill_next (L := L) (g := prodAt Fs) hlt)
      have hN1 := Lib.hid (hNh.out.put hd2.out hfl hlt hg2 1)
      have hcu := Lib.hid (cu_st_ hLh.out (i := k) (by rw [hMM]; exact hlt))
      have hfl' := Lib.hid hfl
      clear hd0
      generalize stOf (over L) (k : Int) = s at hsb hnx hcu ⊢
      go_wp2_with fail
      clear c0 f0 cA
      generalize facFill L (prodAt Fs) Q k = ds at *
      generalize wr.setCell ⟨g2, k, none⟩ (.int .i64 1) = W3 at hN1 ⊢
      go_loopg [24] n (fun gn v wr => ∃ j : Nat, j ≤ n ∧ gn = n - j ∧ v = .int .i64 j ∧ FacN w wr G (.slice A1 (over L).length c1) (.slice (some ⟨g2, 0, none⟩) Q c2) (over L) (ds.set k (prodAt (Fs.take j) s)))
      case atStart => exact ⟨0, Nat.zero_le _, rfl, rfl, hN1.out⟩
      case round =>
        obtain ⟨j, hj, hgn, rfl, hN⟩ := hrel
        have hgj : gk = n - j := hgn
        have hNh := Lib.hid hN
        clear hgn hN
        by_cases hlj : j < n
        · obtain ⟨gl, off, F, B1, m1, e1, B2, m2, e2, rfl, hgl, hFj, cl1, cl2, hFW⟩ := (hI.out.below hNh.out.2.2.2.2).at_ hlj
          have hj0 : (0 : Int) ≤ (j : Int) := by omega
          have hj1 : (j : Int) < (n : Int) := by omega
          have hFo := hFh.out F (List.mem_of_getElem? hFj)
          obtain ⟨q1, q2, q3, q4, q5⟩ := fac_parts hFo
          have hm1 := hFW.1.1
          have hBz := hNh.out.2.2.2.2.size
          have cI := Lib.hid (fun wx hx => numberIn_any B1 B2 m1 e1 m2 e2 F s wx hx (by omega) q3 q5 hsb)
          have hFb := fAt_bd hFo (by omega) s
          have hPb := prod_bd hM hFh.out s j
          have hPc := prod_bd hM hFh.out s (j + 1)
          have hPt := prod_take hFj s
          have hT1 := hTh.out j (by omega)
          have hT2 := hTh.out (j + 1) (by omega)
          rw [hPt] at hPc
          have hPth := Lib.hid hPt
          generalize prodAt (Fs.take j) s = y at hPb hPc hPth hNh
          generalize fAt F s = z at hFb hPc hPth cI
          have hyz : 0 ≤ y * z ∧ y * z ≤ 1000000000000000000 := ⟨hPc.1, Int.le_trans hPc.2 hT2⟩
          have hwm : IntKind.i64.wrap (y * z) = y * z := by rw [IntKind.wrap_i64]; omega
          have hNa := Lib.hid (hNh.out.below ((Below.refl _ _).alloc (Nat.le_refl _) (.cells #[.slice B1 m1 e1, .slice B2 m2 e2] 56)))
          have hal : Below wr.heap.size wr (wr.alloc (.cells #[.slice B1 m1 e1, .slice B2 m2 e2] 56)) := (Below.refl _ _).alloc (Nat.le_refl _) _
          have hFa := Lib.hid (show FacW _ _ B1 m1 B2 m2 F from ((hFW.more hBz).keep_ hal).more hal.size)
          have hfn := Lib.hid (Has.new wr 56 #[.slice B1 m1 e1, .slice B2 m2 e2])
          clear hal hFW hFo q1 q2 q3 q4 q5 hPt hFb hPb hPc
          go_wp2_with fail
          clear cl1 cl2
          have hlx : (ds.set k y).length = Q := by rw [List.length_set]; exact hfl'.out
          have hgx : (ds.set k y)[k]? = some y := by rw [List.getElem?_set_self (by rw [hfl'.out]; exact hlt)]
          generalize wr.alloc (.cells #[.slice B1 m1 e1, .slice B2 m2 e2] 56) = W4 at hNa hFa hfn ⊢
          generalize wr.heap.size = gf at hfn ⊢
          refine wp_region_any (by kernel_rfl) ?_
          change wpAny _ _ _ _ _ _ _ (World.drew _)
          refine wpAny_last (n := 10) (I := fun listed aq wx => listed.size = 11 ∧ ∃ v28 v29 v30 v31 v32 v33 v34 v35 v36 v37 : Value, aq = { tmps := #[.slice (some ⟨gl, off, none⟩) n c, .int .i64 L, undef, undef, .pointer (some ⟨w.heap.size, 0, none⟩), .pointer (some ⟨G, 0, none⟩), .int .i64 s, .int .i64 ↑k, undef, .pointer (some ⟨gf, 0, none⟩), .int .i64 L, .agg #[.slice A1 (over L).length c1, .slice (some ⟨g2, 0, none⟩) Q c2], .pointer (some ⟨G, 1, none⟩), .slice (some ⟨g2, 0, none⟩) Q c2, .int .i64 ↑Q, .int .i64 ↑k, .bool true, .int .i64 ↑k, .pointer (some ⟨G, 1, none⟩), .slice (some ⟨g2, 0, none⟩) Q c2, .int .i64 ↑k, .pointer (some ⟨g2, k, none⟩), .slice (some ⟨gl, off, none⟩) n c, .int .i64 ↑n, .int .i64 ↑j, .bool true, .pointer (some ⟨gl, off + j * 2, none⟩), .agg #[.slice B1 m1 e1, .slice B2 m2 e2], v28, v29, v30, v31, v32, v33, v34, v35, v36, v37, u38, u39, u40, u41, u42, undef], defers := [] } ∧ (listed.getD 0 false = true → v28 = .pointer (some ⟨G, 1, none⟩)) ∧ (listed.getD 1 false = true → v29 = .slice (some ⟨g2, 0, none⟩) Q c2) ∧ (listed.getD 2 false = true → v30 = .int .i64 ↑k) ∧ (listed.getD 3 false = true → v31 = .pointer (some ⟨g2, k, none⟩)) ∧ (listed.getD 4 false = true → v32 = .int .i64 y) ∧ (listed.getD 5 false = true → v33 = .agg #[.slice B1 m1 e1, .slice B2 m2 e2]) ∧ (listed.getD 6 false = true → v34 = .int .i64 s) ∧ (listed.getD 7 false = true → v35 = .int .i64 z) ∧ (listed.getD 8 false = true → v36 = .int .i64 (y * z)) ∧ (listed.getD 9 false = true → v37 = .pointer (some ⟨g2, k, none⟩)) ∧ Below W4.heap.size W4 wx) rfl (by kernel_rfl) (by kernel_rfl) ?hs ?hl _ _ _ ?st rfl (by decide) _ (by decide)
          case st =>
            refine ⟨rfl, u28, u29, u30, u31, u32, u33, u34, u35, u36, u37, rfl, ?_, ?_, ?_, ?_, ?_, ?_, ?_, ?_, ?_, ?_, (Below.refl _ _).drew⟩ <;> (intro e; exact absurd e (by decide))
          case hs =>
            rintro listed aq wx ⟨hz, v28, v29, v30, v31, v32, v33, v34, v35, v36, v37, rfl, hII⟩ i hin hi
            obtain ⟨h0, o, ho, hd⟩ := mem_ready.1 hi
            have K0 := Lib.hid hII.1
            have K1 := Lib.hid hII.2.1
            have K2 := Lib.hid hII.2.2.1
            have K3 := Lib.hid hII.2.2.2.1
            have K4 := Lib.hid hII.2.2.2.2.1
            have K5 := Lib.hid hII.2.2.2.2.2.1
            have K6 := Lib.hid hII.2.2.2.2.2.2.1
            have K7 := Lib.hid hII.2.2.2.2.2.2.2.1
            have K8 := Lib.hid hII.2.2.2.2.2.2.2.2.1
            have K9 := Lib.hid hII.2.2.2.2.2.2.2.2.2.1
            have hB : Below W4.heap.size W4 wx := hII.2.2.2.2.2.2.2.2.2.2
            have hne := Lib.hid (fun k (hk : i ≠ k) => @listed_ne listed i k hk)
            have hNx := hNa.out.below hB
            have hA := hNx.2.2.1
            have hfx := hfn.out.kept hB
            have hFx : FacW wx wx.heap.size B1 m1 B2 m2 F := (hFa.out.keep_ hB).more hB.size
            clear hII hi h0
            rcases (by omega : i = 0 ∨ i = 1 ∨ i = 2 ∨ i = 3 ∨ i = 4 ∨ i = 5 ∨ i = 6 ∨ i = 7 ∨ i = 8 ∨ i = 9) with rfl | rfl | rfl | rfl | rfl | rfl | rfl | rfl | rfl | rfl
            · cases ho
              refine wpOp_step rfl (fun K hK => ?_)
              go_simp
              refine hK _ _ ⟨by simpa using hz, .pointer (some ⟨G, 1, none⟩), v29, v30, v31, v32, v33, v34, v35, v36, v37, rfl, ?_⟩
              exact ⟨fun _ => rfl, fun e => K1.out (hne.out 1 (by decide) e), fun e => K2.out (hne.out 2 (by decide) e), fun e => K3.out (hne.out 3 (by decide) e), fun e => K4.out (hne.out 4 (by decide) e), fun e => K5.out (hne.out 5 (by decide) e), fun e => K6.out (hne.out 6 (by decide) e), fun e => K7.out (hne.out 7 (by decide) e), fun e => K8.out (hne.out 8 (by decide) e), fun e => K9.out (hne.out 9 (by decide) e), hB⟩
            · cases ho
              have d0 := hd ⟨0, .data⟩ (by simp) rfl
              obtain rfl := K0.out d0
              have hxc := hA.cell
              refine wpOp_step rfl (fun K hK => ?_)
              go_simp
              refine hK _ _ ⟨by simpa using hz, .pointer (some ⟨G, 1, none⟩), .slice (some ⟨g2, 0, none⟩) Q c2, v30, v31, v32, v33, v34, v35, v36, v37, rfl, ?_⟩
              exact ⟨fun e => K0.out (hne.out 0 (by decide) e), fun _ => rfl, fun e => K2.out (hne.out 2 (by decide) e), fun e => K3.out (hne.out 3 (by decide) e), fun e => K4.out (hne.out 4 (by decide) e), fun e => K5.out (hne.out 5 (by decide) e), fun e => K6.out (hne.out 6 (by decide) e), fun e => K7.out (hne.out 7 (by decide) e), fun e => K8.out (hne.out 8 (by decide) e), fun e => K9.out (hne.out 9 (by decide) e), hB⟩
            · cases ho
              refine wpOp_step rfl (fun K hK => ?_)
              go_simp
              refine hK _ _ ⟨by simpa using hz, v28, v29, .int .i64 ↑k, v31, v32, v33, v34, v35, v36, v37, rfl, ?_⟩
              exact ⟨fun e => K0.out (hne.out 0 (by decide) e), fun e => K1.out (hne.out 1 (by decide) e), fun _ => rfl, fun e => K3.out (hne.out 3 (by decide) e), fun e => K4.out (hne.out 4 (by decide) e), fun e => K5.out (hne.out 5 (by decide) e), fun e => K6.out (hne.out 6 (by decide) e), fun e => K7.out (hne.out 7 (by decide) e), fun e => K8.out (hne.out 8 (by decide) e), fun e => K9.out (hne.out 9 (by decide) e), hB⟩
            · cases ho
              have d1 := hd ⟨1, .data⟩ (by simp) rfl
              have d2 := hd ⟨2, .data⟩ (by simp) rfl
              obtain rfl := K1.out d1
              obtain rfl := K2.out d2
              refine wpOp_step rfl (fun K hK => ?_)
              go_simp
              refine hK _ _ ⟨by simpa using hz, v28, .slice (some ⟨g2, 0, none⟩) Q c2, .int .i64 ↑k, .pointer (some ⟨g2, k, none⟩), v32, v33, v34, v35, v36, v37, rfl, ?_⟩
              exact ⟨fun e => K0.out (hne.out 0 (by decide) e), fun e => K1.out (hne.out 1 (by decide) e), fun e => K2.out (hne.out 2 (by decide) e), fun _ => rfl, fun e => K4.out (hne.out 4 (by decide) e), fun e => K5.out (hne.out 5 (by decide) e), fun e => K6.out (hne.out 6 (by decide) e), fun e => K7.out (hne.out 7 (by decide) e), fun e => K8.out (hne.out 8 (by decide) e), fun e => K9.out (hne.out 9 (by decide) e), hB⟩
            · cases ho
              have d3 := hd ⟨3, .data⟩ (by simp) rfl
              obtain rfl := K3.out d3
              have hcc := (hNx.cell hlx hgx).1
              refine wpOp_step rfl (fun K hK => ?_)
              go_simp
              refine hK _ _ ⟨by simpa using hz, v28, v29, v30, .pointer (some ⟨g2, k, none⟩), .int .i64 y, v33, v34, v35, v36, v37, rfl, ?_⟩
              exact ⟨fun e => K0.out (hne.out 0 (by decide) e), fun e => K1.out (hne.out 1 (by decide) e), fun e => K2.out (hne.out 2 (by decide) e), fun e => K3.out (hne.out 3 (by decide) e), fun _ => rfl, fun e => K5.out (hne.out 5 (by decide) e), fun e => K6.out (hne.out 6 (by decide) e), fun e => K7.out (hne.out 7 (by decide) e), fun e => K8.out (hne.out 8 (by decide) e), fun e => K9.out (hne.out 9 (by decide) e), hB⟩
            · cases ho
              have hfc := hfx.cell
              refine wpOp_step rfl (fun K hK => ?_)
              go_simp
              refine hK _ _ ⟨by simpa using hz, v28, v29, v30, v31, v32, .agg #[.slice B1 m1 e1, .slice B2 m2 e2], v34, v35, v36, v37, rfl, ?_⟩
              exact ⟨fun e => K0.out (hne.out 0 (by decide) e), fun e => K1.out (hne.out 1 (by decide) e), fun e => K2.out (hne.out 2 (by decide) e), fun e => K3.out (hne.out 3 (by decide) e), fun e => K4.out (hne.out 4 (by decide) e), fun _ => rfl, fun e => K6.out (hne.out 6 (by decide) e), fun e => K7.out (hne.out 7 (by decide) e), fun e => K8.out (hne.out 8 (by decide) e), fun e => K9.out (hne.out 9 (by decide) e), hB⟩
            · cases ho
              refine wpOp_step rfl (fun K hK => ?_)
              go_simp
              refine hK _ _ ⟨by simpa using hz, v28, v29, v30, v31, v32, v33, .int .i64 s, v35, v36, v37, rfl, ?_⟩
              exact ⟨fun e => K0.out (hne.out 0 (by decide) e), fun e => K1.out (hne.out 1 (by decide) e), fun e => K2.out (hne.out 2 (by decide) e), fun e => K3.out (hne.out 3 (by decide) e), fun e => K4.out (hne.out 4 (by decide) e), fun e => K5.out (hne.out 5 (by decide) e), fun _ => rfl, fun e => K7.out (hne.out 7 (by decide) e), fun e => K8.out (hne.out 8 (by decide) e), fun e => K9.out (hne.out 9 (by decide) e), hB⟩
            · cases ho
              have d5 := hd ⟨5, .data⟩ (by simp) rfl
              have d6 := hd ⟨6, .data⟩ (by simp) rfl
              obtain rfl := K5.out d5
              obtain rfl := K6.out d6
              refine wpOp_step rfl (fun K hK => ?_)
              go_simp
              go_at_call 100
              refine (cI.out _ hFx).mono ?_
              rintro e w3 ⟨rfl, hb3⟩
              refine hK _ _ ⟨by simpa using hz, v28, v29, v30, v31, v32, .agg #[.slice B1 m1 e1, .slice B2 m2 e2], .int .i64 s, .int .i64 z, v36, v37, rfl, ?_⟩
              exact ⟨fun e => K0.out (hne.out 0 (by decide) e), fun e => K1.out (hne.out 1 (by decide) e), fun e => K2.out (hne.out 2 (by decide) e), fun e => K3.out (hne.out 3 (by decide) e), fun e => K4.out (hne.out 4 (by decide) e), fun e => K5.out (hne.out 5 (by decide) e), fun e => K6.out (hne.out 6 (by decide) e), fun _ => rfl, fun e => K8.out (hne.out 8 (by decide) e), fun e => K9.out (hne.out 9 (by decide) e), hB.trans (hb3.mono hB.size)⟩
            · cases ho
              have d4 := hd ⟨4, .data⟩ (by simp) rfl
              have d7 := hd ⟨7, .data⟩ (by simp) rfl
              obtain rfl := K4.out d4
              obtain rfl := K7.out d7
              refine wpOp_step rfl (fun K hK => ?_)
              go_simp
              refine hK _ _ ⟨by simpa using hz, v28, v29, v30, v31, .int .i64 y, v33, v34, .int .i64 z, .int .i64 (y * z), v37, rfl, ?_⟩
              exact ⟨fun e => K0.out (hne.out 0 (by decide) e), fun e => K1.out (hne.out 1 (by decide) e), fun e => K2.out (hne.out 2 (by decide) e), fun e => K3.out (hne.out 3 (by decide) e), fun e => K4.out (hne.out 4 (by decide) e), fun e => K5.out (hne.out 5 (by decide) e), fun e => K6.out (hne.out 6 (by decide) e), fun e => K7.out (hne.out 7 (by decide) e), fun _ => rfl, fun e => K9.out (hne.out 9 (by decide) e), hB⟩
            · cases ho
              have d1 := hd ⟨1, .data⟩ (by simp) rfl
              have d2 := hd ⟨2, .data⟩ (by simp) rfl
              obtain rfl := K1.out d1
              obtain rfl := K2.out d2
              refine wpOp_step rfl (fun K hK => ?_)
              go_simp
              refine hK _ _ ⟨by simpa using hz, v28, .slice (some ⟨g2, 0, none⟩) Q c2, .int .i64 ↑k, v31, v32, v33, v34, v35, v36, .pointer (some ⟨g2, k, none⟩), rfl, ?_⟩
              exact ⟨fun e => K0.out (hne.out 0 (by decide) e), fun e => K1.out (hne.out 1 (by decide) e), fun e => K2.out (hne.out 2 (by decide) e), fun e => K3.out (hne.out 3 (by decide) e), fun e => K4.out (hne.out 4 (by decide) e), fun e => K5.out (hne.out 5 (by decide) e), fun e => K6.out (hne.out 6 (by decide) e), fun e => K7.out (hne.out 7 (by decide) e), fun e => K8.out (hne.out 8 (by decide) e), fun _ => rfl, hB⟩
          case hl =>
            rintro listed aq wx ⟨hz, v28, v29, v30, v31, v32, v33, v34, v35, v36, v37, rfl, hII⟩ hall
            have K0 := Lib.hid hII.1
            have K1 := Lib.hid hII.2.1
            have K2 := Lib.hid hII.2.2.1
            have K3 := Lib.hid hII.2.2.2.1
            have K4 := Lib.hid hII.2.2.2.2.1
            have K5 := Lib.hid hII.2.2.2.2.2.1
            have K6 := Lib.hid hII.2.2.2.2.2.2.1
            have K7 := Lib.hid hII.2.2.2.2.2.2.2.1
            have K8 := Lib.hid hII.2.2.2.2.2.2.2.2.1
            have K9 := Lib.hid hII.2.2.2.2.2.2.2.2.2.1
            have hB : Below W4.heap.size W4 wx := hII.2.2.2.2.2.2.2.2.2.2
            have hNx := hNa.out.below hB
            have hA := hNx.2.2.1
            have hfx := hfn.out.kept hB
            have hFx : FacW wx wx.heap.size B1 m1 B2 m2 F := (hFa.out.keep_ hB).more hB.size
            clear hII
            obtain rfl := K0.out (hall 0 (by decide))
            obtain rfl := K1.out (hall 1 (by decide))
            obtain rfl := K2.out (hall 2 (by decide))
            obtain rfl := K3.out (hall 3 (by decide))
            obtain rfl := K4.out (hall 4 (by decide))
            obtain rfl := K5.out (hall 5 (by decide))
            obtain rfl := K6.out (hall 6 (by decide))
            obtain rfl := K7.out (hall 7 (by decide))
            obtain rfl := K8.out (hall 8 (by decide))
            obtain rfl := K9.out (hall 9 (by decide))
            clear hall K0 K1 K2 K3 K4 K5 K6 K7 K8 K9
            have hcc := (hNx.cell hlx hgx).1
            have hff := (hNx.cell hlx hgx).2
            refine wpOp_step rfl (fun K hK => ?_)
            go_simp
            refine hK _ _ ?_
            clear hK
            have hP1 := Lib.hid (hNx.put hd2.out hlx hlt hg2 (y * z))
            have hP2 := Lib.hid (show FacN w _ G (.slice A1 (over L).length c1) (.slice (some ⟨g2, 0, none⟩) Q c2) (over L) (ds.set k (prodAt (Fs.take (j + 1)) s)) from by rw [hPth.out]; have h1 := hP1.out; rwa [List.set_set] at h1)
            clear hcc hff hNx hA hfx hFx
            go_wp2_with fail
            go_roundg (n - (j + 1))
            case measure => omega
            case rel => exact ⟨j + 1, by omega, rfl, by go_num, hP2.out⟩
        · obtain rfl : j = n := by omega
          have hP2 := Lib.hid (show FacN w wr G (.slice A1 (over L).length c1) (.slice (some ⟨g2, 0, none⟩) Q c2) (over L) (facFill L (prodAt Fs) Q (k + 1)) from by rw [← hnx.out]; have h1 := hNh.out; rwa [List.take_of_length_le (by omega)] at h1)
          go_wp2_with fail
          refine (cU.out s hsb _).mono ?_
          rintro e w' ⟨rfl, rfl⟩
          go_wp2_with fail
          go_roundg (Q - (k + 1))
          case measure => omega
          case rel => exact ⟨k + 1, by omega, rfl, by go_num, by rw [hcu.out], hP2.out⟩
    · obtain rfl : k = Q := by omega
      obtain ⟨h1, h2, h3, h4, h5⟩ := hNh.out
      rw [hall.out] at h1
      have cA := h3.cell
      have cR := h4.cell
      have fR := h4.frozen
      have hKp := Lib.hid ((((KeptBut.refl wr (fun i => i = w.heap.size)).put (p := ⟨w.heap.size, 0, none⟩) (fun _ => rfl) (.slice A1 (over L).length c1)).put (p := ⟨w.heap.size, 1, none⟩) (fun _ => rfl) (.slice (some ⟨g2, 0, none⟩) k c2)))
      have hr1 := (h4.put 0 (.slice A1 (over L).length c1)).cell 0
      have hr2 := ((h4.put 0 (.slice A1 (over L).length c1)).put 1 (.slice (some ⟨g2, 0, none⟩) k c2)).cell 1
      go_wp2_with fail
      refine bodyPost_ret (v := .agg #[.slice A1 (over L).length c1, .slice (some ⟨g2, 0, none⟩) k c2]) (by simp [results, Try.results109, go_sem, hr1, hr2]) rfl ⟨_, _, rfl, ⟨?_, ?_, ?_⟩, ?_⟩
      · exact h2.but hKp.out (fun k hk e => iown_ne h2 h4 (by decide) k hk e)
      · exact h1.but hKp.out (fun k hk e => iown_ne h1 h4 (by decide) k hk e)
      · intro b hb1 hb2
        have e1 : g2 = b := by simpa [Value.ownBlock] using hb2
        exact hd2.out (e1 ▸ hb1)
      · exact (h5.setCell (p := ⟨w.heap.size, 0, none⟩) (Nat.le_refl _) _).setCell (p := ⟨w.heap.size, 1, none⟩) (Nat.le_refl _) _
end Go.Proofs.Ytghkpmafocacoaa
