/- Parts of the proof: L6, L7. -/
import Derived.Test.YtghkpmafocacoaaZAS
namespace Go.Proofs.Ytghkpmafocacoaa
set_option maxRecDepth 100000
set_option linter.unusedVariables false
open Go.RowKit
theorem frs_bare (w : World) (B : Nat) : Frs w B [] Gr.none_ (bF 4) := ⟨fun v x hv hx => by
  show (if v < 4 then (1 : Int) else 0) = ownL [] v x
  rw [if_pos (by omega)]
  rfl, fun v hv => by
  show (if v < 4 then (v : Int) else 0) = _
  rw [if_pos (by omega), (none_ok.2.2 ⟨v, by omega⟩).1], by rw [none_ok.2.1]; rfl, fun _ _ => ⟨rfl, rfl⟩, fun u t hu ht he => by
  rw [(none_ok.2.2 ⟨u, by omega⟩).2, Nat.zero_testBit] at he
  cases he⟩
/-- What forestOf tells. -/
def Fof (w : World) (Fs : List Fac) (e : Ending) (w' : World) : Prop :=
  Below w.heap.size w w' ∧ ∃ f : Fo, e = .returned (.tuple #[.agg f.cells, .bool (treeOk Fs)]) ∧ (∀ u t, (f.b1 u t).oneCell' = true ∧ (f.b2 u t).oneCell' = true) ∧ (treeOk Fs = true → ∃ g, grL Fs = some g ∧ Frs w' w.heap.size Fs g f)
theorem zero_fz : Try.zeroCells102 = fz.cells := by kernel_rfl
theorem fill97 {w : World} {G : Nat} {T : TypeId} {cs cs' : Array Value} (h : Has w G T cs) (hs : cs.size = 97) (hs' : cs'.size = 97) : Has (w.setCells G 0 cs'.toList) G T cs' := by
  obtain ⟨cx, h1, h2, h3, _⟩ := has_setCells_ cs'.toList 0 w cs h (by rw [Array.length_toList, hs, hs']; exact Nat.le_refl _)
  have : cx = cs' := by
    apply Array.ext_getElem?
    intro q
    by_cases hq : q < 97
    · have := h3 q cs'[q] (by rw [Array.getElem?_toList, Array.getElem?_eq_getElem (by omega)])
      rw [Nat.zero_add] at this
      rw [this, Array.getElem?_eq_getElem (by omega)]
    · rw [Array.getElem?_eq_none (by omega), Array.getElem?_eq_none (by omega)]
  subst this
  exact h1
theorem load97 {w : World} {G : Nat} {cs : Array Value} (h : Has w G 102 cs) (hs : cs.size = 97) : (loadVar 102 ⟨G, 0, none⟩).run Try.prog w = .ok (.agg cs) w :=
  run_loadVar_row (P := Try.prog) w G 102 102 cs (0, 0) _ h Try.underlying102 rfl (by rw [(zero_of_info (P := Try.prog) info_forest).2, hs])
theorem room97 {w : World} {G : Nat} {T : TypeId} {cs : Array Value} (h : Has w G T cs) (hs : cs.size = 97) : w.there G 0 97 := has_there_ h (by omega)
set_option maxHeartbeats 2000000 in
theorem forestOf_any (A : Option Addr) (n c : Nat) (Fs : List Fac) (w : World) (h : FLst w w.heap.size A n Fs) (hn : n ≤ maxLen) (hsm : smallF Fs) :
    Calls Try.prog 89 #[.slice A n c] w (Fof w Fs) := by
  obtain ⟨hzero, hsize⟩ := zero_of_info (P := Try.prog) info_forest
  have hI := Lib.hid h
  have hl := h.1
  have hSm := Lib.hid hsm
  have cOk := Lib.hid (fun wx hx => factorsOk_any A n c Fs wx hx hn hsm)
  have cB := Lib.hid (fun wx => bareForest_any wx)
  have hone := Lib.hid (Fo.one fz (fun _ _ => ⟨rfl, rfl⟩))
  have hone4 := Lib.hid (Fo.one (bF 4) (fun _ _ => ⟨rfl, rfl⟩))
  have hs0 := fz.size
  have hs4 := (bF 4).size
  have hbu := zero_fz
  obtain ⟨zc, hzc⟩ : ∃ zc, fz.cells = zc := ⟨_, rfl⟩
  obtain ⟨b4, hb4⟩ : ∃ b4, (bF 4).cells = b4 := ⟨_, rfl⟩
  rw [hzc] at hzero hone hs0 hbu
  rw [hb4] at hs4 hone4
  have hz2 := Lib.hid (show (Try.prog.info? 102).map (·.size) = some zc.size from by rw [hsize, hs0])
  have hz4 := Lib.hid (show (Try.prog.info? 102).map (·.size) = some b4.size from by rw [hsize, hs4])
  have cB4 := Lib.hid (fun wx => (cB.out wx).mono fun e w' q => (show e = .returned (.agg b4) ∧ _ from ⟨by rw [← hb4]; exact q.1, q.2⟩))
  have hW0 := Lib.hid (Has.new w 102 zc)
  have hB0h := Lib.hid (show Below w.heap.size w (w.alloc (.cells zc 102)) from (Below.refl _ _).alloc (Nat.le_refl _) _)
  have hzch := Lib.hid hzc
  have hb4h := Lib.hid hb4
  have hs0h := Lib.hid hs0
  have hs4h := Lib.hid hs4
  have hszh := Lib.hid hsize
  have hall := Lib.hid (fun wx => Has.new wx 102 zc)
  clear hsize h hsm hzc hb4 cB hs0 hs4
  unfold maxLen at hn
  go_enter Try.func89, Try.ntmps89
  go_wp2_with fail
  refine (cOk.out _ ((hI.out.below hB0h.out).more hB0h.out.size)).mono ?_
  rintro e w1 ⟨rfl, hb1⟩
  have hz0 := hB0h.out.size
  have hB1 := Lib.hid (hB0h.out.trans (hb1.mono hz0))
  have hW1 := Lib.hid (hW0.out.kept hb1)
  clear hb1 hz0 hB0h hW0
  generalize hlo : listOk Fs = lo
  cases lo
  · have hR := Lib.hid (show treeOk Fs = false by unfold treeOk; rw [hlo]; rfl)
    have hT1 := Lib.hid (show w1.there w.heap.size 0 zc.size from by rw [hs0h.out]; exact room97 hW1.out hs0h.out)
    have hF1 := Lib.hid (load97 (fill97 hW1.out hs0h.out hs0h.out) hs0h.out)
    have hBn := Lib.hid (setCells_below (Nat.le_refl w.heap.size) zc.toList 0 hB1.out)
    clear hlo hzero
    go_wp2_with (first
      | (refine wpList_store_mid rfl 102 (.tmp 2) (.tmp 10) rfl w.heap.size 0 zc (by rfl) (by rfl) hT1.out hz2.out hone.out ?_))
    change bodyPost _ _ _ _ _ _
    refine bodyPost_ret (v := .tuple #[.agg zc, .bool false]) (by rw [results_cell_tmp Try.results89]; simp [asAddr, Result.andThen, hF1.out]) rfl ?_
    exact ⟨hBn.out, fz, by rw [hR.out, hzch.out], fun _ _ => ⟨rfl, rfl⟩, fun q => by rw [hR.out] at q; cases q⟩
  have hlh := Lib.hid hlo
  clear hlo
  go_wp2_with fail
  refine (cB4.out _).mono ?_
  rintro e w2 ⟨rfl, hb2⟩
  have hzb := hB1.out.size
  have hB2 := Lib.hid ((hB1.out.trans (hb2.mono hzb)).alloc (Nat.le_trans hzb hb2.size) (.cells zc 102))
  have hW2 := Lib.hid ((hW1.out.kept hb2).alloc (.cells zc 102))
  have hG2 := Lib.hid (hall.out w2)
  have hlt0 := Has.lt hW1.out
  have hle2 := hb2.size
  clear hb2 hB1 hW1
  have hT2 := Lib.hid (show (w2.alloc (.cells zc 102)).there w2.heap.size 0 b4.size from by rw [hs4h.out]; exact room97 hG2.out hs0h.out)
  go_wp2_with (first
      | (refine wpList_store_mid rfl 102 (.tmp 4) (.tmp 11) rfl w2.heap.size 0 b4 (by rfl) (by rfl) hT2.out hz4.out hone4.out ?_))
  have hF3 := Lib.hid (fill97 hG2.out hs0h.out hs4h.out)
  have hW3 := Lib.hid (has_far_setCells_ (show w.heap.size ≠ w2.heap.size by omega) b4.toList 0 _ hW2.out)
  have hB3 := Lib.hid (setCells_below (show w.heap.size ≤ w2.heap.size by omega) b4.toList 0 hB2.out)
  generalize (w2.alloc (.cells zc 102)).setCells w2.heap.size 0 b4.toList = W3 at hF3 hW3 hB3 ⊢
  generalize w2.heap.size = G at hF3 hle2 ⊢
  clear hT2 hG2 hW2 hB2
  clear hzero
  have hFF := Lib.hid (show FoW W3 G (bF 4) from by unfold FoW; rw [hb4h.out]; exact hF3.out)
  have hFr := Lib.hid (frs_bare W3 w.heap.size)
  have hlo8 : Fs.all (facOk 9) = true := by
    have := hlh.out
    unfold listOk at this
    rw [Bool.and_eq_true] at this
    exact this.2
  have hok9 := Lib.hid (fun F (hF : F ∈ Fs) => List.all_eq_true.1 hlo8 F hF)
  have hbd := Lib.hid (fun k v x => ownL_small hlh.out v x k)
  have hne : w.heap.size ≠ G := by omega
  clear hF3 hlo8 cB4 cOk hall
  go_loopg [14] n (fun gn v wr => ∃ (k : Nat) (f : Fo) (g : Gr), k ≤ n ∧ gn = n - k ∧ v = .int .i64 k ∧ grL (Fs.take k) = some g ∧ FoW wr G f ∧ Frs wr w.heap.size (Fs.take k) g f ∧ Has wr w.heap.size 102 zc ∧ Below w.heap.size w wr)
  case atStart => exact ⟨0, bF 4, Gr.none_, Nat.zero_le _, rfl, rfl, rfl, hFF.out, hFr.out, hW3.out, hB3.out⟩
  case round =>
    obtain ⟨k, f, g, hk, hgn, rfl, hgr, hF, hR, hW, hB⟩ := hrel
    have hgk : gk = n - k := hgn
    have hFh := Lib.hid hF
    have hRh := Lib.hid hR
    have hWh := Lib.hid hW
    have hBh := Lib.hid hB
    have hgh := Lib.hid hgr
    clear hgn hgr hF hR hW hB hFF hFr hW3 hB3
    by_cases hlt : k < n
    · obtain ⟨gl, off, F, B1, m1, e1, B2, m2, e2, rfl, hgl, hFk, cl1, cl2, hFW⟩ := (hI.out.below hBh.out).at_ hlt
      have hk0 : (0 : Int) ≤ (k : Int) := by omega
      have hk1 : (k : Int) < (n : Int) := by omega
      have hFkh := Lib.hid hFk
      have hst := Lib.hid (fst_take (Fs := Fs) (fun F hF => hok9.out F hF) k hgh.out)
      have hz := hBh.out.size
      have hA : Below wr.heap.size wr (wr.alloc (.cells #[.slice B1 m1 e1, .slice B2 m2 e2] 56)) := (Below.refl _ _).alloc (Nat.le_refl _) _
      have hFa := Lib.hid (show FoW (wr.alloc (.cells #[.slice B1 m1 e1, .slice B2 m2 e2] 56)) G f from hFh.out.alloc _)
      have hRa := Lib.hid (hRh.out.below (hA.mono hz))
      have hWa := Lib.hid (hWh.out.alloc (.cells #[.slice B1 m1 e1, .slice B2 m2 e2] 56))
      have hBa := Lib.hid (hBh.out.alloc hz (.cells #[.slice B1 m1 e1, .slice B2 m2 e2] 56))
      have hFWa := Lib.hid (hFW.keep_ (hA.mono hz))
      have hX := Lib.hid (Has.new wr 56 #[.slice B1 m1 e1, .slice B2 m2 e2])
      have x0 := hX.out.cell 0
      have x1 := hX.out.cell 1
      have hG4 := Has.lt hFh.out
      have hT := Lib.hid (fun wx (hx : FoW wx G f) hy hz => take_any w.heap.size G (Nat.le_of_lt (show w.heap.size < G by omega)) f g (Fs.take k) F B1 m1 e1 B2 m2 e2 wx hx hy hst.out hz (hok9.out F (List.mem_of_getElem? hFkh.out)) (fun v x => hbd.out k v x))
      have htk := Lib.hid (grL_take hFk)
      obtain ⟨hl1, hel⟩ := List.getElem?_eq_some_iff.1 hFk
      have htake := Lib.hid (show Fs.take (k + 1) = Fs.take k ++ [F] by rw [List.take_succ_eq_append_getElem hl1, hel])
      clear hFk hFW hA hl1 hel
      go_wp2_with fail
      clear cl1 cl2 x0 x1
      generalize wr.alloc (.cells #[.slice B1 m1 e1, .slice B2 m2 e2] 56) = W4 at *
      refine (hT.out W4 hFa.out hRa.out hFWa.out).mono ?_
      rintro e w5 ⟨rfl, hk5, hN5⟩
      have hK5 := Lib.hid hk5
      have hN5h := Lib.hid hN5
      clear hk5 hN5 hT
      have hW5 := Lib.hid (hWa.out.but hK5.out hne)
      have hB5 := Lib.hid (hBa.out.trans (hK5.out.below (B := w.heap.size) (fun i hi e => by omega) (by have := hBa.out.size; exact this)))
      cases hq : addF g F with
      | none =>
        have hR0 := Lib.hid (show treeOk Fs = false by
          unfold treeOk
          have h1 : grL (Fs.take (k + 1)) = none := by rw [htk.out, hgh.out]; exact hq
          rw [grL_stop h1, hlh.out]
          rfl)
        have hT1 := Lib.hid (show w5.there w.heap.size 0 zc.size from by rw [hs0h.out]; exact room97 hW5.out hs0h.out)
        have hF1 := Lib.hid (load97 (fill97 hW5.out hs0h.out hs0h.out) hs0h.out)
        have hBn := Lib.hid (setCells_below (Nat.le_refl w.heap.size) zc.toList 0 hB5.out)
        simp only [Option.isSome_none]
        clear hq
        go_wp2_with (first
          | (refine wpList_store_mid rfl 102 (.tmp 2) (.tmp 21) rfl w.heap.size 0 zc (by rfl) (by rfl) hT1.out hz2.out hone.out ?_))
        change bodyPost _ _ _ _ _ _
        refine bodyPost_ret (v := .tuple #[.agg zc, .bool false]) (by rw [results_cell_tmp Try.results89]; simp [asAddr, Result.andThen, hF1.out]) rfl ?_
        exact ⟨hBn.out, fz, by rw [hR0.out, hzch.out], fun _ _ => ⟨rfl, rfl⟩, fun q => by rw [hR0.out] at q; cases q⟩
      | some g' =>
        obtain ⟨f', hf1, hf2, _⟩ := hN5h.out g' hq
        have hN6 := Lib.hid (show grL (Fs.take (k + 1)) = some g' by rw [htk.out, hgh.out]; exact hq)
        have hf1h := Lib.hid hf1
        have hf2h := Lib.hid hf2
        simp only [Option.isSome_some]
        clear hq hf1 hf2
        go_wp2_with fail
        go_roundg (n - (k + 1))
        case measure => omega
        case rel => exact ⟨k + 1, f', g', by omega, rfl, by go_num, hN6.out, hf1h.out, by rw [htake.out]; exact hf2h.out, hW5.out, hB5.out⟩
    · obtain rfl : k = n := by omega
      have hfull : Fs.take k = Fs := List.take_of_length_le (by omega)
      have hR0 := Lib.hid (show treeOk Fs = true by
        unfold treeOk
        rw [hlh.out, ← hfull, hgh.out]
        rfl)
      have hgr := Lib.hid (show grL Fs = some g by rw [← hfull]; exact hgh.out)
      have hRf := Lib.hid (show Frs wr w.heap.size Fs g f by have := hRh.out; rwa [hfull] at this)
      have hsf := Lib.hid f.size
      obtain ⟨fc, hfc⟩ : ∃ fc, f.cells = fc := ⟨_, rfl⟩
      have hFx := Lib.hid (show Has wr G 102 fc from by rw [← hfc]; exact hFh.out)
      have hs97 := Lib.hid (show fc.size = 97 by rw [← hfc]; exact hsf.out)
      have hofc := Lib.hid (show fc.all (·.oneCell') = true by rw [← hfc]; exact Fo.one f hRh.out.one)
      have hfch := Lib.hid hfc
      clear hfc hfull
      have hR1 := Lib.hid (show wr.rangeAt G 0 fc.toList from has_range_ hFx.out (fun j v hv => by rw [Nat.zero_add]; simpa using hv))
      have hZ1 := Lib.hid (show (Try.prog.info? 102).map (·.size) = some fc.toList.length from by rw [hszh.out, Array.length_toList, hs97.out])
      have hZ2 := Lib.hid (show (Try.prog.info? 102).map (·.size) = some fc.size from by rw [hszh.out, hs97.out])
      have hT1 := Lib.hid (show wr.there w.heap.size 0 fc.size from by rw [hs97.out]; exact room97 hWh.out hs0h.out)
      have hF1 := Lib.hid (load97 (fill97 hWh.out hs0h.out hs97.out) hs97.out)
      have hBn := Lib.hid (setCells_below (Nat.le_refl w.heap.size) fc.toList 0 hBh.out)
      have hRn := Lib.hid (hRf.out.below (setCells_below (Nat.le_refl w.heap.size) fc.toList 0 (Below.refl w.heap.size wr)))
      go_wp2_with (first
        | (refine wpList_load_mid rfl 102 (.tmp 4) rfl G 0 (by simp [Act.eval]) fc.toList _ hR1.out Try.underlying102 rfl hZ1.out ?_)
        | (refine wpList_store_mid rfl 102 (.tmp 2) (.tmp 23) rfl w.heap.size 0 fc (by rfl) (by rfl) hT1.out hZ2.out hofc.out ?_))
      change bodyPost _ _ _ _ _ _
      refine bodyPost_ret (v := .tuple #[.agg fc, .bool true]) (by rw [results_cell_tmp Try.results89]; simp [asAddr, Result.andThen, hF1.out]) rfl ?_
      exact ⟨hBn.out, f, by rw [hR0.out, hfch.out], hRf.out.one, fun _ => ⟨g, hgr.out, hRn.out⟩⟩
end Go.Proofs.Ytghkpmafocacoaa

namespace Go.Proofs.Ytghkpmafocacoaa
set_option maxRecDepth 100000
set_option linter.unusedVariables false
open Go.RowKit
def gOf (Fs : List Fac) : Gr := (grL Fs).getD Gr.none_
def nextL (Fs : List Fac) (v : Int) : List Int := if treeOk Fs = true then over (nxI (gOf Fs) v) else []
def ownR (Fs : List Fac) (v : Int) : List Int := if (treeOk Fs && inB v 0 3) = true then [ownL Fs v.toNat 0, ownL Fs v.toNat 1, ownL Fs v.toNat 2] else []
/-- Numbers that lie somewhere in a block of the call's own, or none. -/
def Rws (w : World) (base : Nat) (v : Value) (ds : List Int) : Prop :=
  (v = .slice none 0 0 ∧ ds = []) ∨ ∃ (g off : Nat) (T : TypeId) (cs : Array Value), v = .slice (some ⟨g, off, none⟩) ds.length ds.length ∧ base ≤ g ∧ Has w g T cs ∧ ∀ k d, ds[k]? = some d → cs[off + k]? = some (.int .i64 d)
def Rtd (w : World) (ds : List Int) (ok : Bool) (e : Ending) (w' : World) : Prop := ∃ v, e = .returned (.tuple #[v, .bool ok]) ∧ Rws w' w.heap.size v ds ∧ Below w.heap.size w w'
/-- What forestOf told lies in a block of its own. -/
theorem fof_store {w w' : World} {zc fc : Array Value} (hB : Below w.heap.size w w') (hz : zc.size = 97) (hf : fc.size = 97) :
    Has ((w'.alloc (.cells zc 102)).setCells w'.heap.size 0 fc.toList) w'.heap.size 102 fc ∧ Below w.heap.size w ((w'.alloc (.cells zc 102)).setCells w'.heap.size 0 fc.toList) ∧ Below w'.heap.size w' ((w'.alloc (.cells zc 102)).setCells w'.heap.size 0 fc.toList) := by
  have h1 := fill97 (Has.new w' 102 zc) hz hf
  refine ⟨h1, ?_, ?_⟩
  · exact setCells_below hB.size fc.toList 0 (hB.alloc hB.size _)
  · exact setCells_below (Nat.le_refl _) fc.toList 0 ((Below.refl _ _).alloc (Nat.le_refl _) _)
set_option maxHeartbeats 1000000 in
theorem NextTo_any (A : Option Addr) (n c : Nat) (Fs : List Fac) (v : Int) (w : World) (h : FLst w w.heap.size A n Fs) (hn : n ≤ maxLen) (hsm : smallF Fs) :
    Calls Try.prog 54 #[.slice A n c, .int .i64 v] w (Wtsd w (nextL Fs v)) := by
  obtain ⟨hzero, hsize⟩ := zero_of_info (P := Try.prog) info_forest
  have cF := Lib.hid (fun wx hx => forestOf_any A n c Fs wx hx hn hsm)
  have hI := Lib.hid h
  have hs0 := fz.size
  have hbu := zero_fz
  obtain ⟨zc, hzc⟩ : ∃ zc, fz.cells = zc := ⟨_, rfl⟩
  rw [hzc] at hzero hs0 hbu
  have hs0h := Lib.hid hs0
  have hszh := Lib.hid hsize
  clear hsize h hsm hzc hs0
  go_enter Try.func54, Try.ntmps54
  go_wp2_with fail
  refine (cF.out _ hI.out).mono ?_
  rintro e w1 ⟨hb1, f, rfl, hone, hgt⟩
  have hs97 := Lib.hid f.size
  have hofc := Lib.hid (Fo.one f hone)
  obtain ⟨fc, hfc⟩ : ∃ fc, f.cells = fc := ⟨_, rfl⟩
  rw [hfc] at hs97 hofc ⊢
  have hN := Lib.hid (fof_store (zc := zc) hb1 hs0h.out hs97.out)
  have hT1 := Lib.hid (show (w1.alloc (.cells zc 102)).there w1.heap.size 0 fc.size from by rw [hs97.out]; exact room97 (Has.new w1 102 zc) hs0h.out)
  have hZ2 := Lib.hid (show (Try.prog.info? 102).map (·.size) = some fc.size from by rw [hszh.out, hs97.out])
  have hbh := Lib.hid hb1
  have hfch := Lib.hid hfc
  clear hone hb1 hfc
  cases htt : treeOk Fs
  · have htth := Lib.hid htt
    clear htt hgt
    go_wp2_with (first
      | (refine wpList_store_mid rfl 102 (.tmp 5) (.tmp 10) rfl w1.heap.size 0 fc (by rfl) (by rfl) hT1.out hZ2.out hofc.out ?_))
    have hR := Lib.hid (show nextL Fs v = [] by unfold nextL; rw [htth.out]; rfl)
    go_ret
    rw [hR.out]
    exact ⟨_, rfl, IOwn.nil _ _, hN.out.2.1⟩
  obtain ⟨g, hgr, hfr⟩ := hgt htt
  have htth := Lib.hid htt
  have hgh := Lib.hid (show gOf Fs = g by unfold gOf; rw [hgr]; rfl)
  have hfrh := Lib.hid hfr
  clear htt hgt hgr hfr
  have hR := Lib.hid (show nextL Fs v = over (nxI g v) by unfold nextL; rw [htth.out, if_pos rfl, hgh.out])
  have cN := Lib.hid (fun wx hx => nextTo_any w1.heap.size f g v wx hx hfrh.out.prs)
  have cV := Lib.hid (fun wx => varsIn_any (nxI g v) wx (nxI_bd g v))
  generalize nxI g v = L at hR cN cV
  have hNx := Lib.hid (show FoW ((w1.alloc (.cells zc 102)).setCells w1.heap.size 0 fc.toList) w1.heap.size f from by unfold FoW; rw [hfch.out]; exact hN.out.1)
  go_wp2_with (first
    | (refine wpList_store_mid rfl 102 (.tmp 5) (.tmp 10) rfl w1.heap.size 0 fc (by rfl) (by rfl) hT1.out hZ2.out hofc.out ?_))
  have hB2 := Lib.hid hN.out.2.1
  generalize (w1.alloc (.cells zc 102)).setCells w1.heap.size 0 fc.toList = W2 at hB2 hNx ⊢
  clear hN hT1
  refine (cN.out _ hNx.out).mono ?_
  rintro e w' ⟨rfl, rfl⟩
  go_wp2_with fail
  refine (cV.out _).mono ?_
  rintro e w3 ⟨v3, rfl, hv3, hb3⟩
  have hv3h := Lib.hid (owns_le hv3 hB2.out.size)
  have hB3 := Lib.hid (hB2.out.trans (hb3.mono hB2.out.size))
  clear hv3 hb3
  go_wp2_with fail
  go_ret
  rw [hR.out]
  exact ⟨_, rfl, hv3h.out, hB3.out⟩
set_option maxHeartbeats 1000000 in
theorem OwnOf_any (A : Option Addr) (n c : Nat) (Fs : List Fac) (v : Int) (w : World) (h : FLst w w.heap.size A n Fs) (hn : n ≤ maxLen) (hsm : smallF Fs) :
    Calls Try.prog 52 #[.slice A n c, .int .i64 v] w (Rtd w (ownR Fs v) (treeOk Fs && inB v 0 3)) := by
  obtain ⟨hzero, hsize⟩ := zero_of_info (P := Try.prog) info_forest
  have cF := Lib.hid (fun wx hx => forestOf_any A n c Fs wx hx hn hsm)
  have hI := Lib.hid h
  have hs0 := fz.size
  have hbu := zero_fz
  obtain ⟨zc, hzc⟩ : ∃ zc, fz.cells = zc := ⟨_, rfl⟩
  rw [hzc] at hzero hs0 hbu
  have hs0h := Lib.hid hs0
  have hszh := Lib.hid hsize
  have cV := Lib.hid (fun wx => varOk_any v wx)
  clear hsize h hsm hzc hs0
  go_enter Try.func52, Try.ntmps52
  go_wp2_with fail
  refine (cF.out _ hI.out).mono ?_
  rintro e w1 ⟨hb1, f, rfl, hone, hgt⟩
  have hs97 := Lib.hid f.size
  have hofc := Lib.hid (Fo.one f hone)
  obtain ⟨fc, hfc⟩ : ∃ fc, f.cells = fc := ⟨_, rfl⟩
  rw [hfc] at hs97 hofc ⊢
  have hN := Lib.hid (fof_store (zc := zc) hb1 hs0h.out hs97.out)
  have hT1 := Lib.hid (show (w1.alloc (.cells zc 102)).there w1.heap.size 0 fc.size from by rw [hs97.out]; exact room97 (Has.new w1 102 zc) hs0h.out)
  have hZ2 := Lib.hid (show (Try.prog.info? 102).map (·.size) = some fc.size from by rw [hszh.out, hs97.out])
  have hbh := Lib.hid hb1
  have hfch := Lib.hid hfc
  clear hone hb1 hfc
  cases htt : treeOk Fs
  · have htth := Lib.hid htt
    clear htt hgt
    go_wp2_with (first
      | (refine wpList_store_mid rfl 102 (.tmp 6) (.tmp 11) rfl w1.heap.size 0 fc (by rfl) (by rfl) hT1.out hZ2.out hofc.out ?_))
    have hR := Lib.hid (show ownR Fs v = [] by unfold ownR; rw [htth.out]; rfl)
    go_ret2
    rw [hR.out, htth.out]
    exact ⟨_, rfl, .inl ⟨rfl, rfl⟩, hN.out.2.1⟩
  obtain ⟨g, hgr, hfr⟩ := hgt htt
  have htth := Lib.hid htt
  have hgh := Lib.hid (show gOf Fs = g by unfold gOf; rw [hgr]; rfl)
  have hfrh := Lib.hid hfr
  clear htt hgt hgr hfr
  have hNx := Lib.hid (show FoW ((w1.alloc (.cells zc 102)).setCells w1.heap.size 0 fc.toList) w1.heap.size f from by unfold FoW; rw [hfch.out]; exact hN.out.1)
  cases hv : inB v 0 3
  · have hR := Lib.hid (show ownR Fs v = [] by unfold ownR; rw [hv, Bool.and_false]; rfl)
    have hok := Lib.hid (show (treeOk Fs && inB v 0 3) = false by rw [hv, Bool.and_false])
    rw [hv] at cV
    clear hv
    go_wp2_with (first
      | (refine wpList_store_mid rfl 102 (.tmp 6) (.tmp 11) rfl w1.heap.size 0 fc (by rfl) (by rfl) hT1.out hZ2.out hofc.out ?_)
      | (go_at_call 97; refine (cV.out _).mono ?_; rintro e w' ⟨rfl, rfl⟩))
    go_ret2
    rw [hR.out, hok.out]
    exact ⟨_, rfl, .inl ⟨rfl, rfl⟩, hN.out.2.1⟩
  · have hvb := inB_iff.1 hv
    obtain ⟨k, rfl, hk⟩ := nat4 hvb.1 hvb.2
    have hR := Lib.hid (show ownR Fs (k : Int) = [ownL Fs k 0, ownL Fs k 1, ownL Fs k 2] by unfold ownR; rw [htth.out, hv]; rfl)
    have hok := Lib.hid (show (treeOk Fs && inB (k : Int) 0 3) = true by rw [htth.out, hv]; rfl)
    rw [hv] at cV
    have hk0 : (0 : Int) ≤ (k : Int) := by omega
    have hk4 : (k : Int) < 4 := by omega
    clear hv hvb
    go_wp2_with (first
      | (refine wpList_store_mid rfl 102 (.tmp 6) (.tmp 11) rfl w1.heap.size 0 fc (by rfl) (by rfl) hT1.out hZ2.out hofc.out ?_)
      | (go_at_call 97; refine (cV.out _).mono ?_; rintro e w' ⟨rfl, rfl⟩))
    go_ret2
    rw [hR.out, hok.out]
    refine ⟨_, rfl, .inr ⟨w1.heap.size, k * 3, _, _, rfl, hbh.out.size, hNx.out, fun j d hd => ?_⟩, hN.out.2.1⟩
    obtain rfl | rfl | rfl : j = 0 ∨ j = 1 ∨ j = 2 := by
      have := (List.getElem?_eq_some_iff.1 hd).1
      simp at this
      omega
    all_goals
      obtain rfl := Option.some.inj hd
      rw [← hfrh.out.own k _ (by omega) (by decide)]
      exact f.own_at (by omega) (by decide) rfl
end Go.Proofs.Ytghkpmafocacoaa
