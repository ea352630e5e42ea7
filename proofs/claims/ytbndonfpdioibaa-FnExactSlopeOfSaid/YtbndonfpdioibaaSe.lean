/- All runs at once, with slopes: the program's toEnd. -/
import Derived.Test.YtbndonfpdioibaaSd
namespace Go.Proofs.Ytbndonfpdioibaa
set_option maxRecDepth 100000
set_option linter.unusedVariables false
open Go.RowKit

theorem extract_two {sn : Array Value} {x y : Value} {k : Nat} (h0 : sn[k]? = some x) (h1 : sn[k + 1]? = some y) : sn.extract k (k + 2) = #[x, y] := by
  have hl := (Array.getElem?_eq_some_iff.1 h1).1
  apply Array.ext
  · simp; omega
  · intro i hi1 hi2
    have hi : i < 2 := hi2
    have e : (sn.extract k (k + 2))[i]? = sn[k + i]? := by
      rw [Array.getElem?_extract, if_pos (by omega)]
    rw [Array.getElem?_eq_getElem hi1] at e
    obtain rfl | rfl : i = 0 ∨ i = 1 := by omega
    · exact Option.some.inj (e.trans h0)
    · exact Option.some.inj (e.trans h1)
theorem index_sl {sn : Array Value} {x y : Value} {q : Nat} (h0 : sn[q * 2]? = some x) (h1 : sn[q * 2 + 1]? = some y) (hq : q < 81) (w : World) : (Instr.index 88 (.agg sn) (.int .i64 q)).run Try.prog w = .ok (.agg #[x, y]) w := by
  have hu := Try.underlying88
  have hc : (0 : Int) ≤ (q : Int) ∧ (q : Int) < 81 := by omega
  simp [Instr.index, run_underlying hu, asIntOf, go_sem, part, hc]
  rw [if_pos hq, extract_two h0 h1]
theorem eqSloped (a b c d : Int) (w : World) : (Op.equalIn 10000 87 (.agg #[.int .i64 a, .int .i64 b]) (.agg #[.int .i64 c, .int .i64 d])).run Try.prog w = .ok (a == c && b == d) w := by
  have u3 := Try.underlying3
  have a3 := Try.isAgg3
  have z3 := Try.sizeOf3
  have hS : Try.prog.underlying 87 = some (.struct (Try.prog.fieldsOf 87)) := by kernel_rfl
  rw [show (10000 : Nat) = 9999 + 1 from rfl, run_equalIn_agg w 9999 87 _ _ hS (by kernel_rfl)]
  simp only [Program.fieldsOf, Try.underlying87]
  go_simp
  by_cases h1 : a = c <;> by_cases h2 : b = d <;> simp [h1, h2]
theorem ent_row {rs rs' : List (List Int)} {i : Nat} (h : rs.getD i [] = rs'.getD i []) (k : Nat) : ent rs i k = ent rs' i k := by
  unfold ent
  rw [h]
theorem Gsl.skip {os : List St} {m a i z : Nat} {c : Int} {T : (Int → Int) → Int} {ns gs : List (List Int)} (h : Gsl os m a c T i z ns gs) (hi : i < m) (hz : z < 81) (h1 : ent ns i z = 0) (h2 : ent gs i z = 0) : Gsl os m a c T i (z + 1) ns gs := by
  obtain ⟨hn, hg, hT, hV⟩ := h
  refine ⟨hn, hg, fun q => ?_, ?_⟩
  · have := hT q
    rw [rsum_drop hn (by omega) hz, rsum_drop hg (by omega) hz, h1, h2, Int.zero_mul, Int.zero_mul] at this
    omega
  · rw [rsum_drop hn (by omega) hz, rsum_drop hg (by omega) hz, h1, h2, Int.zero_mul, Int.zero_mul] at hV
    omega
/-- One row of cells. -/
def SlRow (sn : Array Value) (nr gr : Nat → Int) : Prop := sn.size = 162 ∧ ∀ z : Nat, z < 81 → sn[z * 2]? = some (.int .i64 (nr z)) ∧ sn[z * 2 + 1]? = some (.int .i64 (gr z))
theorem SlA.row {cs : Array Value} {m i : Nat} {ns gs : List (List Int)} (h : SlA cs m ns gs) (hi : i ≤ m) : SlRow (cs.extract (i * 162) (i * 162 + 162)) (ent ns i) (ent gs i) := by
  have hl := h.1
  have hle : i * 162 + 162 ≤ cs.size := by omega
  refine ⟨by simp; omega, fun z hz => ?_⟩
  have e := h.2 i z hi hz
  constructor
  · rw [Array.getElem?_extract, if_pos (by omega), show i * 162 + z * 2 = i * 162 + z * 2 from rfl]
    exact e.1
  · rw [Array.getElem?_extract, if_pos (by omega), ← Nat.add_assoc]
    exact e.2
theorem info_slo : (Try.prog.info? 88).map (fun i => (i.zero, i.size, i.bytes)) = some (some (.agg (List.toArray (List.replicate 162 (.int .i64 0)))), 162, 1296) := by kernel_rfl
theorem size_slo : (Try.prog.info? 88).map (·.size) = some 162 := by
  obtain ⟨i0, hi0, hz0, hz1', hz2'⟩ := info_parts info_slo
  rw [hi0]
  simp [hz1']
/-- How the climb ends. -/
def Told (w : World) (gR m a : Nat) (os : List St) (v : Int) (e : Ending) (w' : World) : Prop := e = .returned (.tuple #[]) ∧ (∃ ns gs cs, Gsl os m a v (fun h => groAt v h os a 0 0) m 0 ns gs ∧ Has w' gR 88 cs ∧ SlA cs m ns gs) ∧ KeptBut w w' (fun k => k = gR)

set_option maxHeartbeats 4000000 in
theorem toEnd_any (w : World) (base g gR m c a : Nat) (A : Option Addr) (os : List St) (v : Int) (ns0 gs0 : List (List Int)) (t : St) (cs : Array Value) (h : Clh w base g m A c os a v gR) (hC : Has w gR 88 cs) (hA : SlA cs m ns0 gs0) (hG : Gsl os m a v (fun h => groAt v h os a 0 0) 0 0 ns0 gs0) (hgR : base ≤ gR) (hm : m ≤ 12) (hM : os.length = m) (ht : os[a]? = some t) (htw : t.hasW = true) (hok : ∀ s ∈ os, s.ok = true) :
    Calls Try.prog 72 #[.pointer (some ⟨g, 0, none⟩)] w (Told w gR m a os v) := by
  have ham : a < m := by rw [← hM]; exact (List.getElem?_eq_some_iff.1 ht).1
  have hcl0 := Lib.hid h
  have hC0 := Lib.hid hC
  have hA0 := Lib.hid hA
  have hG0 := Lib.hid hG
  have hMo := Lib.hid hM
  have hOk := Lib.hid hok
  have hT := Lib.hid (And.intro ht htw)
  have hgRh := Lib.hid hgR
  have hgc := h.1.cell
  have hm0 : (0 : Int) ≤ (m : Int) := by omega
  have hm9 : m ≤ 9223372036854775807 := by omega
  clear h hC hA hG hM hok ht htw hgR
  go_enter Try.func72, Try.ntmps72
  go_wp2_with fail
  clear hgc
  go_loopg [10] m (fun gn u wr => ∃ (i : Nat) (ns gs : List (List Int)) (cs : Array Value), i ≤ m ∧ gn = m - i ∧ u = .int .i64 i ∧ Gsl os m a v (fun h => groAt v h os a 0 0) i 0 ns gs ∧ Clh wr base g m A c os a v gR ∧ Has wr gR 88 cs ∧ SlA cs m ns gs ∧ KeptBut w wr (fun k => k = gR))
  case atStart => exact ⟨0, ns0, gs0, cs, Nat.zero_le _, rfl, rfl, hG0.out, hcl0.out, hC0.out, hA0.out, KeptBut.refl _ _⟩
  case round =>
    clear hcl0 hC0 hA0 hG0
    obtain ⟨i, ns, gs, cs, hi, hgn, rfl, hG, hcl, hC, hA, hK⟩ := hrel
    have hgk : gk = m - i := hgn
    clear hgn
    by_cases him : i < m
    · obtain ⟨s, hs⟩ : ∃ s, os[i]? = some s := ⟨_, List.getElem?_eq_getElem (by rw [hMo.out]; exact him)⟩
      have hso := hOk.out s (List.mem_of_getElem? hs)
      have hhw := Lib.hid (show i = a → s.hasW = true from fun e => by
        subst e
        have := hs.symm.trans hT.out.1
        injection this with this
        rw [this]
        exact hT.out.2)
      have hS := Lib.hid hs
      have hSo := Lib.hid hso
      have hrow := Lib.hid (hA.row (i := i) (by omega))
      have hR := Lib.hid (has_range (o := i * 162) (vs := (cs.extract (i * 162) (i * 162 + 162)).toList) hC (fun j x hj => by
        rw [Array.getElem?_toList] at hj
        have hjl := (Array.getElem?_eq_some_iff.1 hj).1
        rw [Array.getElem?_extract] at hj
        split at hj
        · exact hj
        · cases hj))
      have hZ := Lib.hid (show (Try.prog.info? 88).map (·.size) = some (cs.extract (i * 162) (i * 162 + 162)).toList.length from by rw [size_slo, Array.length_toList, hrow.out.1])
      have hGh := Lib.hid hG
      have hclh := Lib.hid hcl
      have hCh := Lib.hid hC
      have hAh := Lib.hid hA
      have hKh := Lib.hid hK
      have hgc := hcl.1.cell
      have hi0 : (0 : Int) ≤ (i : Int) := by omega
      have hi1 : (i : Int) < (m : Int) := by omega
      have hi2 : (i : Int) < (m : Int) + 1 := by omega
      clear hG hcl hC hA hK hs hso
      generalize hsn : cs.extract (i * 162) (i * 162 + 162) = sn at hrow hR hZ
      clear hsn
      go_wp2_with (first | (refine wpList_load_mid rfl 88 (.tmp 18) rfl gR (i * 162) (by rfl) sn.toList _ hR.out Try.underlying88 rfl hZ.out ?_))
      clear hgc hR hZ
      obtain ⟨go, rfl⟩ : ∃ go : Nat, go = gk := ⟨_, rfl⟩
      obtain ⟨wo, rfl⟩ : ∃ wo : World, wo = wr := ⟨_, rfl⟩
      go_loopg [20] 81 (fun gn u wr => ∃ (z : Nat) (nz gz : List (List Int)) (cz : Array Value), z ≤ 81 ∧ gn = 81 - z ∧ u = .int .i64 z ∧ Gsl os m a v (fun h => groAt v h os a 0 0) i z nz gz ∧ (∀ k, ent nz i k = ent ns i k ∧ ent gz i k = ent gs i k) ∧ Clh wr base g m A c os a v gR ∧ Has wr gR 88 cz ∧ SlA cz m nz gz ∧ KeptBut w wr (fun k => k = gR))
      case atStart => exact ⟨0, ns, gs, cs, by omega, rfl, rfl, hGh.out, fun k => ⟨rfl, rfl⟩, hclh.out, hCh.out, hAh.out, hKh.out⟩
      case round =>
        clear hGh hclh hCh hAh hKh
        obtain ⟨z, nz, gz, cz, hz, hgn, rfl, hG, he, hcl, hC, hA, hK⟩ := hrel
        have hgk2 : gk = 81 - z := hgn
        clear hgn
        by_cases hz81 : z < 81
        · have hz0 : (0 : Int) ≤ (z : Int) := by omega
          have hz1 : (z : Int) < 81 := by omega
          obtain ⟨hx, hy⟩ := hrow.out.2 z hz81
          rw [← (he z).1] at hx
          rw [← (he z).2] at hy
          have hix := fun wx => index_sl hx hy hz81 wx
          have cSt := Lib.hid (fun (wx : World) (hb : Below wr.heap.size wr wx) => stepIn_any wx base g gR m c a i z A os v nz gz s cz (hcl.below hb) (hC.kept hb) hA hgRh.out hm hMo.out him hS.out hSo.out hz81 hhw.out (hG.cap hSo.out him hz81))
          have hStep := Lib.hid (hG.step hMo.out ham hSo.out him hz81 hS.out hhw.out)
          have hEn := Lib.hid (show ∀ k, ent (mD m nz s ⟨i, z, ent nz i z⟩ s.many) i k = ent ns i k ∧ ent (gD m s v (decide (i = a)) (ent nz i z) gz ⟨i, z, ent gz i z⟩ s.many) i k = ent gs i k from fun k => by
            have e1 : (mD m nz s ⟨i, z, ent nz i z⟩ s.many).getD i [] = nz.getD i [] := mD_le (r := ⟨i, z, ent nz i z⟩) him s.many i (Nat.le_refl _)
            have e2 : (gD m s v (decide (i = a)) (ent nz i z) gz ⟨i, z, ent gz i z⟩ s.many).getD i [] = gz.getD i [] := gD_le (r := ⟨i, z, ent gz i z⟩) him s.many i (Nat.le_refl _)
            rw [← (he k).1, ← (he k).2]
            exact ⟨ent_row e1 k, ent_row e2 k⟩)
          have hSk := Lib.hid (fun h1 h2 => hG.skip him hz81 h1 h2)
          have heh := Lib.hid he
          have hclh := Lib.hid hcl
          have hCh := Lib.hid hC
          have hAh := Lib.hid hA
          have hKh := Lib.hid hK
          clear hG he hcl hC hA hK hx hy
          generalize hX : ent nz i z = X at hix cSt hStep hEn hSk
          generalize hY : ent gz i z = Y at hix cSt hStep hEn hSk
          clear hX hY
          have hBa := Lib.hid ((Below.refl wr.heap.size wr).alloc (Nat.le_refl _) (.cells #[.int .i64 X, .int .i64 Y] 87))
          have heq := fun wx => eqSloped X Y 0 0 wx
          by_cases hxy : X = 0 ∧ Y = 0
          · have hb : (X == 0 && Y == 0) = true := by rw [hxy.1, hxy.2]; rfl
            have hGn := Lib.hid (hSk.out hxy.1 hxy.2)
            have hcln := Lib.hid (hclh.out.below hBa.out)
            have hCn := Lib.hid (hCh.out.kept hBa.out)
            have hKn := Lib.hid (KeptBut.trans hKh.out (KeptBut.of_below hBa.out (fun k => k = gR)) (fun k _ e => e))
            clear hxy cSt
            go_wp2_with fail
            go_roundg (81 - (z + 1))
            case measure => omega
            case rel => exact ⟨z + 1, nz, gz, cz, by omega, rfl, by go_num, hGn.out, heh.out, hcln.out, hCn.out, hAh.out, hKn.out⟩
          · have hb : (X == 0 && Y == 0) = false := by
              cases h9 : (X == 0 && Y == 0)
              · rfl
              · simp at h9
                exact absurd h9 hxy
            have cStx := Lib.hid (cSt.out _ hBa.out)
            clear hxy cSt
            go_wp2_with fail
            refine (cStx.out).mono ?_
            rintro e w5 ⟨rfl, ⟨cs5, hC5, hA5⟩, hk5⟩
            have hcln := Lib.hid ((hclh.out.below hBa.out).but hk5 (hCh.out.kept hBa.out) hgRh.out)
            have hCn := Lib.hid hC5
            have hAn := Lib.hid hA5
            have hKn := Lib.hid (KeptBut.trans (KeptBut.trans hKh.out (KeptBut.of_below hBa.out (fun k => k = gR)) (fun k _ e => e)) hk5 (fun k _ e => e))
            clear hC5 hA5 hk5
            go_wp2_with fail
            go_roundg (81 - (z + 1))
            case measure => omega
            case rel => exact ⟨z + 1, _, _, cs5, by omega, rfl, by go_num, hStep.out, hEn.out, hcln.out, hCn.out, hAn.out, hKn.out⟩
        · obtain rfl : z = 81 := by omega
          have hGn := Lib.hid (hG.next him)
          have hclh := Lib.hid hcl
          have hCh := Lib.hid hC
          have hAh := Lib.hid hA
          have hKh := Lib.hid hK
          clear hG he hcl hC hA hK
          go_wp2_with fail
          go_roundg (m - (i + 1))
          case measure => omega
          case rel => exact ⟨i + 1, nz, gz, cz, by omega, rfl, by go_num, hGn.out, hclh.out, hCh.out, hAh.out, hKh.out⟩
    · obtain rfl : i = m := by omega
      have hE := Lib.hid (show Told w gR i a os v (.returned (.tuple #[])) wr from ⟨rfl, ⟨ns, gs, cs, hG, hC, hA⟩, hK⟩)
      clear hG hcl hC hA hK
      go_wp2_with fail
      go_end0
      exact hE.out
end Go.Proofs.Ytbndonfpdioibaa
