/- Diagrams: the model's DiagramTimes. -/
import Derived.Test.YtghkpmafocacoaaOj
import Derived.Test.YtghkpmafocacoaaOr
namespace Go.Proofs.Ytghkpmafocacoaa
set_option maxRecDepth 100000
set_option linter.unusedVariables false
open Go.RowKit

/-- The list of the products. -/
def prodL (d e : List Ce) : List Int := (List.range 81).map (dprod d e)
theorem prodL_length (d e : List Ce) : (prodL d e).length = 81 := by unfold prodL; simp
theorem prodL_get (d e : List Ce) {k : Nat} (h : k < 81) : (prodL d e)[k]? = some (dprod d e k) := by
  unfold prodL
  rw [List.getElem?_map, List.getElem?_range h]; rfl
theorem prodL_fl (d e : List Ce) {k : Nat} (h : k < 81) : fl (prodL d e) k = dprod d e k := by
  unfold fl
  rw [List.getD_eq_getElem?_getD, prodL_get d e h]; rfl
theorem lst_prod {d e : List Ce} (hd : diaOk d = true) (he : diaOk e = true) : lstOk 1000000000 (prodL d e) = timesOk d e ∧ dOf (prodL d e) = timesD d e := by
  have hto : timesOk d e = diaOk (mkd (dprod d e)) := by unfold timesOk; rw [hd, he, Bool.and_self, Bool.true_and]
  by_cases h : ∀ s, s < 81 → inB (dprod d e s) 0 1000000000 = true
  · have h1 : lstOk 1000000000 (prodL d e) = true := lstOk_of (prodL_length d e) fun x hx => by
      unfold prodL at hx
      obtain ⟨s, hs, rfl⟩ := List.mem_map.1 hx
      exact inB_iff.1 (h s (List.mem_range.1 hs))
    have h2 : timesOk d e = true := hto.trans (mkd_ok h)
    refine ⟨h1.trans h2.symm, ?_⟩
    unfold dOf timesD
    rw [if_pos h1, if_pos h2]
    exact mkd_same fun s hs => prodL_fl d e hs
  · obtain ⟨s, hs⟩ := Classical.not_forall.1 h
    obtain ⟨hs1, hs2⟩ : s < 81 ∧ inB (dprod d e s) 0 1000000000 = false := by
      refine ⟨?_, ?_⟩
      · refine Nat.lt_of_not_le fun q => hs fun q2 => by omega
      · cases hb : inB (dprod d e s) 0 1000000000
        · rfl
        · exact absurd (fun _ => hb) hs
    have h2 : timesOk d e = false := hto.trans (mkd_no hs1 hs2)
    have h1 : lstOk 1000000000 (prodL d e) = false := by
      cases hk : lstOk 1000000000 (prodL d e)
      · rfl
      · exfalso
        have := (lstOk_bd hk).2 (dprod d e s) (List.mem_of_getElem? (prodL_get d e hs1))
        rw [inB_iff.2 this] at hs2
        cases hs2
    refine ⟨h1.trans h2.symm, ?_⟩
    unfold dOf timesD
    rw [if_neg (by simp [h1]), if_neg (by simp [h2])]
set_option maxHeartbeats 1000000 in
theorem specDiagramTimes_any (A1 A2 : Option Addr) (n m c1 c2 : Nat) (d e : List Ce) (w : World) (h1 : CLst w w.heap.size A1 n d) (h2 : CLst w w.heap.size A2 m e) (hn : n ≤ maxLen) (hc : c1 ≤ maxLen) (hnc : n ≤ c1) (hm : m ≤ maxLen) (hc2 : c2 ≤ maxLen) (hmc : m ≤ c2) :
    Calls Try.prog 36 #[.slice A1 n c1, .slice A2 m c2] w (Cbd w (timesD d e) (timesOk d e)) := by
  have cD := Lib.hid (specDiagramOk_any A1 n c1 d w h1 hn hc hnc)
  have cE := Lib.hid (fun (wx : World) (hx : CLst wx wx.heap.size A2 m e) => specDiagramOk_any A2 m c2 e wx hx hm hc2 hmc)
  have hH1 := Lib.hid h1
  have hH2 := Lib.hid h2
  have hL1 := h1.1
  have hL2 := h2.1
  clear h1 h2
  cases hd : diaOk d
  · have hR := Lib.hid (show timesOk d e = false by unfold timesOk; rw [hd]; rfl)
    have hR2 := Lib.hid (show timesD d e = [] by unfold timesD; rw [hR.out]; rfl)
    rw [hd] at cD
    rw [hR.out, hR2.out]
    clear hd hL1 hL2 hn hc hnc hm hc2 hmc cE
    go_enter Try.func36, Try.ntmps36
    go_wp2_with fail
    refine cD.out.mono ?_
    rintro ee w1 ⟨rfl, hb⟩
    have hB := Lib.hid hb
    clear hb
    go_wp2_with fail
    go_ret2
    exact ⟨_, rfl, COwn.nil _ _, hB.out⟩
  cases he : diaOk e
  · have hR := Lib.hid (show timesOk d e = false by unfold timesOk; rw [he, Bool.and_false]; rfl)
    have hR2 := Lib.hid (show timesD d e = [] by unfold timesD; rw [hR.out]; rfl)
    rw [hd] at cD
    rw [he] at cE
    rw [hR.out, hR2.out]
    clear hd he hL1 hL2 hn hc hnc hm hc2 hmc
    go_enter Try.func36, Try.ntmps36
    go_wp2_with fail
    refine cD.out.mono ?_
    rintro ee w1 ⟨rfl, hb⟩
    have hB := Lib.hid hb
    clear hb
    go_wp2_with fail
    refine (cE.out _ ((hH2.out.below hB.out).more hB.out.size)).mono ?_
    rintro ee w2 ⟨rfl, hb2⟩
    have hB2 := Lib.hid (hB.out.trans (hb2.mono hB.out.size))
    clear hb2
    go_wp2_with fail
    go_ret2
    exact ⟨_, rfl, COwn.nil _ _, hB2.out⟩
  obtain ⟨d1, d2, d3⟩ := dia_parts hd
  obtain ⟨e1, e2, e3⟩ := dia_parts he
  obtain ⟨hq1, hq2⟩ := lst_prod hd he
  rw [hd] at cD
  rw [he] at cE
  have hbd := Lib.hid (fun (s : Nat) => (show (0 ≤ dnum d s ∧ dnum d s ≤ 1000000000) ∧ (0 ≤ dnum e s ∧ dnum e s ≤ 1000000000) from ⟨num_bd d3 s _ (by omega), num_bd e3 s _ (by omega)⟩))
  rw [hL1] at d1 d2
  rw [hL2] at e1 e2
  have cN1 := Lib.hid (fun (z : Nat) (hz : z < 81) (wx : World) (hx : CLst wx wx.heap.size A1 n d) => l11At_any A1 n c1 z d wx hx d1 d2 d3 (by omega))
  have cN2 := Lib.hid (fun (z : Nat) (hz : z < 81) (wx : World) (hx : CLst wx wx.heap.size A2 m e) => l11At_any A2 m c2 z e wx hx e1 e2 e3 (by omega))
  have hQ1 := Lib.hid hq1
  rw [← hq2]
  have hG := Lib.hid (fun (k : Nat) (h : k < 81) => prodL_get d e h)
  have hdl := Lib.hid (prodL_length d e)
  obtain ⟨os, hos⟩ : ∃ os, os = prodL d e := ⟨_, rfl⟩
  rw [← hos] at hQ1 hG hdl ⊢
  have hosh := Lib.hid hos
  clear hd he hL1 hL2 d3 e3 hn hc hnc hm hc2 hmc hq1 hq2 hos d1 d2 e1 e2
  obtain ⟨i0, hi0, hz0, hz1', hz2'⟩ := info_parts info_int
  go_enter Try.func36, Try.ntmps36
  go_wp2_with fail
  refine cD.out.mono ?_
  rintro ee w1 ⟨rfl, hb⟩
  have hB := Lib.hid hb
  clear hb
  go_wp2_with fail
  refine (cE.out _ ((hH2.out.below hB.out).more hB.out.size)).mono ?_
  rintro ee w2 ⟨rfl, hb2⟩
  have hB2 := Lib.hid (hB.out.trans (hb2.mono hB.out.size))
  have hO1 := Lib.hid (IOwn.of_has (ds := []) (n := 0) (base := w2.heap.size) (Has.new w2 3 #[]) rfl rfl (Nat.le_refl _) (by decide))
  have hB3 := Lib.hid (hB2.out.alloc hB2.out.size (.cells #[] 3))
  have hz2 := hB2.out.size
  clear hb2
  generalize hgo : w2.heap.size = go at hO1 hz2 ⊢
  go_wp2_with fail
  have hgoh := Lib.hid hgo
  clear hgo
  go_loopg [6, 7] 81 (fun gn v i wr => ∃ k : Nat, k ≤ 81 ∧ gn = 81 - k ∧ i = .int .i64 k ∧ IOwn wr go v (os.take k) ∧ Below w.heap.size w wr ∧ go ≤ wr.heap.size)
  case atStart => exact ⟨0, Nat.zero_le _, rfl, rfl, hO1.out, hB3.out, by rw [← hgoh.out]; simp⟩
  case round =>
    obtain ⟨k, hk, hgn, rfl, hO, hB, hgw⟩ := hrel
    have hgk : gk = 81 - k := hgn
    clear hgn
    obtain ⟨Ao, co, hvo, hco1, hco2⟩ := hO.form
    have hlk : (os.take k).length = k := by rw [List.length_take, hdl.out]; omega
    rw [hlk] at hvo
    subst hvo
    have hO' := Lib.hid hO
    have hB' := Lib.hid hB
    have hBz := hB.size
    have hHr := Lib.hid ((hH1.out.below hB).more hBz)
    clear hO hB
    by_cases hlt : k < 81
    · have hk0 : (0 : Int) ≤ (k : Int) := by omega
      have hk1 : (k : Int) < 81 := by omega
      have cK := Lib.hid (cN1.out k hlt wr hHr.out)
      have cK2 := Lib.hid (cN2.out k hlt)
      have hSn := Lib.hid (show os.take (k + 1) = os.take k ++ [dnum d k * dnum e k] from dlist_take os (hG.out k hlt))
      obtain ⟨⟨x0, x1⟩, y0, y1⟩ := hbd.out k
      generalize dnum d k = x at *
      generalize dnum e k = y at *
      have hxy : 0 ≤ x * y ∧ x * y ≤ 1000000000000000000 := by
        refine ⟨Int.mul_nonneg x0 y0, ?_⟩
        have := Int.mul_le_mul x1 y1 y0 (by decide)
        omega
      have hmw : IntKind.i64.wrap (x * y) = x * y := by generalize x * y = z at hxy; rw [IntKind.wrap_i64]; omega
      clear x0 x1 y0 y1 hxy
      go_wp2_with fail
      refine cK.out.mono ?_
      rintro ee w5 ⟨rfl, hb5⟩
      have hO5 := Lib.hid (hO'.out.below hb5)
      have hB5 := Lib.hid (hB'.out.trans (hb5.mono hBz))
      have hz5 : wr.heap.size ≤ w5.heap.size := hb5.size
      clear hb5
      go_wp2_with fail
      refine (cK2.out w5 ((hH2.out.below hB5.out).more hB5.out.size)).mono ?_
      rintro ee w6 ⟨rfl, hb6⟩
      have hO6 := Lib.hid (hO5.out.below hb6)
      have hB6 := Lib.hid (hB5.out.trans (hb6.mono hB5.out.size))
      have hz6 : w5.heap.size ≤ w6.heap.size := hb6.size
      have hgz : go ≤ w6.heap.size := by omega
      have hO3 := Lib.hid (hO6.out.alloc (.cells #[.int .i64 (x * y)] 3))
      have hnw := Lib.hid (new_one w6 (.int .i64 (x * y)) 3)
      have hB3 := Lib.hid (hB6.out.alloc hB6.out.size (.cells #[.int .i64 (x * y)] 3))
      clear hb6
      go_wp2_with (at_builtin; refine wpList_append_lies _ rfl (.tmp 21) (.tmp 29) 31 rfl go 3 i0 _ 1 8 Try.underlying31 hi0 hz0 hz1' hz2' rfl (by decide) (.slice Ao k co) k (ints (os.take k)) rfl (by have := hO3.out; unfold IOwn at this; rwa [hlk] at this) ⟨w6.heap.size, 0, none⟩ 1 1 [.int .i64 (x * y)] rfl rfl (by exact hnw.out) (by simp [Value.oneCell']) (by omega) (by unfold maxLen; omega) (by omega) (by simp; omega) (w6.heap.size + 1) (by simp) ?_; intro gr cr2 w8 hown8 hgrow8 hat8 hlt8)
      have hF := Lib.hid (IOwn.append_ (news := [x * y]) hO3.out (by rw [hlk]; exact hown8) hgrow8 (Below.refl go _) (by simp; omega))
      have hK8 : KeptBut w6 w8 (fun i => (Value.slice Ao k co).ownBlock = some i) := KeptBut.trans (KeptBut.alloc (KeptBut.refl w6 (fun i => (Value.slice Ao k co).ownBlock = some i)) (.cells #[.int .i64 (x * y)] 3)) ⟨hgrow8.os, hgrow8.tape, hgrow8.output, hgrow8.size, fun i hi hn => hgrow8.block i hi (fun e => hn e.symm)⟩ (fun _ _ e => e)
      have hB8 := Lib.hid (hB6.out.trans (hK8.below (B := w.heap.size) (fun i hi q => by have := (World.ownsRow.lt hO6.out i q).1; omega) hB6.out.size))
      have hz8 : w6.heap.size ≤ w8.heap.size := hK8.size
      clear hown8 hgrow8 hat8 hK8
      go_wp2_with fail
      go_roundg (81 - (k + 1))
      case measure => omega
      case rel => exact ⟨k + 1, by omega, rfl, by go_num, by rw [hSn.out]; exact hF.out.1, hB8.out, by omega⟩
    · obtain rfl : k = 81 := by omega
      have hAll := Lib.hid (show os.take 81 = os from List.take_of_length_le (by rw [hdl.out]; omega))
      have hOo : IOwn wr go (.slice Ao 81 co) os := by have := hO'.out; rwa [hAll.out] at this
      have cO := Lib.hid (specDiagramOf_any Ao 81 co os wr (by have := IOwn.lst (by rw [show os.length = 81 from hdl.out] at *; exact hOo : IOwn wr go (.slice Ao 81 co) os); exact this) (by unfold maxLen; omega))
      rw [hQ1.out] at cO
      clear hlk hOo
      go_wp2_with fail
      refine cO.out.mono ?_
      rintro ee w5 ⟨v5, rfl, hO5, hb5⟩
      have hB5 := Lib.hid (hB'.out.trans (hb5.mono hBz))
      have hO5h := Lib.hid (show COwn w5 w.heap.size v5 (dOf os) from owns_le hO5 hBz)
      clear hO5 hb5
      go_wp2_with fail
      go_ret2
      exact ⟨_, rfl, hO5h.out, hB5.out⟩
end Go.Proofs.Ytghkpmafocacoaa
