/- Parts of the proof: LB, LC. -/
import Derived.Test.YtghkpmafocacoaaZAW
namespace Go.Proofs.Ytghkpmafocacoaa
set_option maxRecDepth 100000
set_option linter.unusedVariables false
open Go.RowKit
def Told (Fs : List Fac) (g : Gr) (f : Fo) (T : List (Nat × Nat)) : Prop := ∀ u t, (u, t) ∈ T → ∀ y, y ≤ 2 → f.told u t y = IntKind.i64.wrap (msgT Fs g u t y)
def told3 (Fs : List Fac) (g : Gr) (f : Fo) (u t : Nat) : Fo := ((f.setTold u t 0 (IntKind.i64.wrap (msgT Fs g u t 0))).setTold u t 1 (IntKind.i64.wrap (msgT Fs g u t 1))).setTold u t 2 (IntKind.i64.wrap (msgT Fs g u t 2))
theorem told3_at (Fs : List Fac) (g : Gr) (f : Fo) (u t a b : Nat) {y : Nat} (hy : y ≤ 2) : (told3 Fs g f u t).told a b y = if a = u ∧ b = t then IntKind.i64.wrap (msgT Fs g u t y) else f.told a b y := by
  show (if a = u ∧ b = t ∧ y = 2 then _ else if a = u ∧ b = t ∧ y = 1 then _ else if a = u ∧ b = t ∧ y = 0 then _ else f.told a b y) = _
  by_cases e : a = u ∧ b = t
  · rw [if_pos e]
    obtain rfl | rfl | rfl : y = 0 ∨ y = 1 ∨ y = 2 := by omega
    · rw [if_neg (by omega), if_neg (by omega), if_pos ⟨e.1, e.2, rfl⟩]
    · rw [if_neg (by omega), if_pos ⟨e.1, e.2, rfl⟩]
    · rw [if_pos ⟨e.1, e.2, rfl⟩]
  · rw [if_neg e, if_neg (fun q => e ⟨q.1, q.2.1⟩), if_neg (fun q => e ⟨q.1, q.2.1⟩), if_neg (fun q => e ⟨q.1, q.2.1⟩)]
theorem told_step {Fs : List Fac} {g : Gr} {f : Fo} {T : List (Nat × Nat)} (h : Told Fs g f T) (u t : Nat) : Told Fs g (told3 Fs g f u t) (T ++ [(u, t)]) := fun a b hab y hy => by
  rw [told3_at Fs g f u t a b hy]
  by_cases e : a = u ∧ b = t
  · rw [if_pos e, e.1, e.2]
  · rw [if_neg e]
    rcases List.mem_append.1 hab with h1 | h1
    · exact h a b h1 y hy
    · obtain ⟨rfl, rfl⟩ := Prod.mk.inj (List.mem_singleton.1 h1)
      exact absurd ⟨rfl, rfl⟩ e
structure SameF (f0 f : Fo) : Prop where
  own : f.own = f0.own
  root : f.root = f0.root
  prs : f.prs = f0.prs
  b1 : f.b1 = f0.b1
  b2 : f.b2 = f0.b2
theorem SameF.told3 {f0 f : Fo} (h : SameF f0 f) (Fs : List Fac) (g : Gr) (u t : Nat) : SameF f0 (told3 Fs g f u t) := ⟨h.own, h.root, h.prs, h.b1, h.b2⟩
theorem Frs.same {w : World} {B : Nat} {Fs : List Fac} {g : Gr} {f0 f : Fo} (h : Frs w B Fs g f0) (hs : SameF f0 f) : Frs w B Fs g f :=
  ⟨fun v x a b => by rw [hs.own]; exact h.own v x a b, fun v a => by rw [hs.root]; exact h.root v a, by rw [hs.prs]; exact h.prs, fun u t => by rw [hs.b1, hs.b2]; exact h.one u t, fun u t a b c => by rw [hs.b1, hs.b2]; exact h.btw u t a b c⟩
/-- Who tells next, and that all is told that is needed for it. -/
theorem tell_next {g : Gr} (ha : g.acy = true) {k u t : Nat} (h : (g.tells)[k]? = some (u, t)) : (g.nx u).testBit t = true ∧ ∀ r ∈ nbs g u t, (r, u) ∈ g.tells.take k := by
  obtain ⟨h1, h2, _⟩ := tells_ok g ha
  have hk : k < 6 := by have := (List.getElem?_eq_some_iff.1 h).1; omega
  have hq := h1 ⟨k, hk⟩
  unfold Gr.tellOk at hq
  simp only [h] at hq
  rw [Bool.and_eq_true] at hq
  refine ⟨hq.1, fun r hr => ?_⟩
  unfold nbs at hr
  obtain ⟨h3, h4⟩ := List.mem_filter.1 hr
  have h5 := List.all_eq_true.1 hq.2 r h3
  rw [Bool.or_eq_true, beq_iff_eq] at h5
  rcases h5 with h5 | h5
  · rw [h5] at h4
    simp at h4
  · simpa using h5
theorem tells_up (g : Gr) {r : Nat} {p : Nat × Nat} (hr : r + 1 ≤ (g.brs 4).list.length) (h : (g.brs 4).list[r]? = some p) : (g.tells)[(g.brs 4).list.length - (r + 1)]? = some (p.2, p.1) := by
  unfold Gr.tells
  rw [List.getElem?_append_left (by rw [List.length_map, List.length_reverse]; omega), List.getElem?_map, List.getElem?_reverse (by omega), show (g.brs 4).list.length - 1 - ((g.brs 4).list.length - (r + 1)) = r by omega, h]
  rfl
theorem tells_down (g : Gr) {k : Nat} {p : Nat × Nat} (h : (g.brs 4).list[k]? = some p) : (g.tells)[(g.brs 4).list.length + k]? = some p := by
  unfold Gr.tells
  rw [List.getElem?_append_right (by rw [List.length_map, List.length_reverse]; omega), List.length_map, List.length_reverse, Nat.add_sub_cancel_left, h]
theorem tells_len (g : Gr) : g.tells.length = (g.brs 4).list.length + (g.brs 4).list.length := by
  unfold Gr.tells
  rw [List.length_append, List.length_map, List.length_reverse]
theorem row_at {w : World} {base c k : Nat} {A : Option Addr} {ls : List (Nat × Nat)} {p : Nat × Nat} (h : w.ownsRow base 138 2 (.slice A ls.length c) ls.length (brC ls)) (hp : ls[k]? = some p) :
    ∃ gb, A = some ⟨gb, 0, none⟩ ∧ base ≤ gb ∧ w.cell? ⟨gb, k * 2, none⟩ = some (.int .i64 (p.1 : Int)) ∧ w.cell? ⟨gb, k * 2 + 1, none⟩ = some (.int .i64 (p.2 : Int)) := by
  have hk := (List.getElem?_eq_some_iff.1 hp).1
  obtain ⟨gb, cur, rfl, hg, _, _, _, _, hc⟩ := owns_open h (by omega)
  obtain ⟨h1, h2⟩ := brC_at hp
  exact ⟨gb, rfl, hg, (hc (k * 2) (by omega)).trans h1, (hc (k * 2 + 1) (by omega)).trans h2⟩
set_option maxHeartbeats 2000000 in
theorem tellAll_any (B G : Nat) (hBG : B ≤ G) (f : Fo) (g : Gr) (Fs : List Fac) (w : World) (h : FoW w G f) (hf : Frs w B Fs g f) (hF : ∀ F ∈ Fs, facOk 9 F = true) (hst : Fst Fs g) (hown : ∀ v x, 0 ≤ ownL Fs v x ∧ ownL Fs v x ≤ 43046721) :
    Calls Try.prog 92 #[.pointer (some ⟨G, 0, none⟩)] w fun e w' => e = .returned (.tuple #[]) ∧ KeptBut w w' (fun i => i = G) ∧ ∃ f', FoW w' G f' ∧ SameF f f' ∧ Told Fs g f' g.tells := by
  have hG := Has.lt h
  have cBr := Lib.hid (fun wx hx => branches_any G f g wx hx hf.root hf.prs hst.acy)
  have cT := Lib.hid (fun (u t : Nat) (f' : Fo) (hs : SameF f f') wx hx (hk : KeptBut w wx (fun i => i = G)) hu ht he hT => tell_any B G hBG f' g Fs u t wx hx ((hf.below (hk.below (B := B) (fun i hi e => by omega) (by omega))).same hs) hF hst hu ht he hown hT)
  have hbs := Lib.hid (brs_small g hst.acy ⟨4, by decide⟩)
  have htn := Lib.hid (fun (k u t : Nat) (hq : (g.tells)[k]? = some (u, t)) => tell_next hst.acy hq)
  have hWh := Lib.hid h
  clear hf hF hst hown h
  go_enter Try.func92, Try.ntmps92
  go_wp2_with fail
  refine (cBr.out w hWh.out).mono ?_
  rintro e w1 ⟨v, rfl, hrow, hb1⟩
  obtain ⟨Ab, cb, hvb, _, _⟩ := owns_form hrow
  subst hvb
  have hl3 := hbs.out.2.2.1
  have hF1 := Lib.hid (hWh.out.kept hb1)
  have hK1 := Lib.hid (KeptBut.of_below hb1 (fun i => i = G))
  have hRow := Lib.hid hrow
  have hsm := Lib.hid hbs.out.2.2.2
  have hup := Lib.hid (fun (r : Nat) (p : Nat × Nat) hr hp => tells_up g (r := r) (p := p) hr hp)
  have hdn := Lib.hid (fun (k : Nat) (p : Nat × Nat) hp => tells_down g (k := k) (p := p) hp)
  have htl := Lib.hid (tells_len g)
  clear hrow hb1 cBr hWh hbs
  generalize hls : (g.brs 4).list = ls at hl3 hRow hsm hup hdn htl ⊢
  have hn9 : ls.length ≤ 3 := hl3
  clear hls
  go_wp2_with fail
  go_loopg [3] ls.length (fun gn i wr => ∃ (r : Nat) (f' : Fo), r ≤ ls.length ∧ gn = r ∧ i = .int .i64 ((r : Int) - 1) ∧ FoW wr G f' ∧ SameF f f' ∧ Told Fs g f' (g.tells.take (ls.length - r)) ∧ KeptBut w wr (fun i => i = G) ∧ wr.ownsRow w.heap.size 138 2 (.slice Ab ls.length cb) ls.length (brC ls))
  case atStart => exact ⟨ls.length, f, Nat.le_refl _, rfl, rfl, hF1.out, ⟨rfl, rfl, rfl, rfl, rfl⟩, by rw [Nat.sub_self]; exact fun u t hut => by simp at hut, hK1.out, hRow.out⟩
  case round =>
    obtain ⟨r, f', hr, hgn, rfl, hF, hS, hT, hK, hR⟩ := hrel
    have hgr : gk = r := hgn
    have hFr := Lib.hid hF
    have hSr := Lib.hid hS
    have hTr := Lib.hid hT
    have hKr := Lib.hid hK
    have hRr := Lib.hid hR
    clear hgn hF hS hT hK hR hF1 hK1 hRow
    by_cases hr0 : 0 < r
    · obtain ⟨j, rfl⟩ : ∃ j, r = j + 1 := ⟨r - 1, by omega⟩
      have e1 : ((j + 1 : Nat) : Int) - 1 = (j : Int) := by omega
      rw [e1]
      obtain ⟨p, hp⟩ : ∃ p, ls[j]? = some p := ⟨_, List.getElem?_eq_getElem (by omega)⟩
      obtain ⟨gb, rfl, hgb, c0, c1⟩ := row_at hRr.out hp
      have hpm := hsm.out p (List.mem_of_getElem? hp)
      have hup1 := hup.out j p (by omega) hp
      have hnx := htn.out _ _ _ hup1
      have hcT := Lib.hid (fun wx hx hk => cT.out p.2 p.1 f' hSr.out wx hx hk hpm.2 hpm.1 hnx.1 (fun q hq x hx => hTr.out q p.2 (hnx.2 q hq) x hx))
      have htk := Lib.hid (show g.tells.take (ls.length - j) = g.tells.take (ls.length - (j + 1)) ++ [(p.2, p.1)] from by
        obtain ⟨hl1, he1⟩ := List.getElem?_eq_some_iff.1 hup1
        rw [show ls.length - j = ls.length - (j + 1) + 1 by omega, List.take_succ_eq_append_getElem hl1, he1])
      have hj0 : (0 : Int) ≤ (j : Int) := by omega
      have hj1 : (j : Int) < (ls.length : Int) := by omega
      obtain ⟨p1, p2⟩ := p
      simp only at c0 c1 hpm hcT htk
      clear hup1 hnx hp
      go_wp2_with fail
      go_still_tail 11, (by kernel_rfl)
      repeat still_step
      try (refine wpStill_nil ?_)
      try (change wpList _ _ _ _ _ (World.drew _))
      go_wp2_with fail
      have hKw := Lib.hid (show KeptBut w wr.drew (fun i => i = G) from hKr.out.trans (KeptBut.of_below (Below.refl _ _).drew (fun i => i = G)) (fun _ _ h => h))
      have hRw := Lib.hid (show wr.drew.ownsRow w.heap.size 138 2 (.slice (some ⟨gb, 0, none⟩) ls.length cb) ls.length (brC ls) from hRr.out)
      refine (hcT.out wr.drew hFr.out hKw.out).mono ?_
      rintro e w3 ⟨rfl, hk3, hF3⟩
      have hF4 := Lib.hid (show FoW w3 G (told3 Fs g f' p2 p1) from hF3)
      have hK4 := Lib.hid (hKw.out.trans hk3 (fun _ _ h => h))
      have hR4 := Lib.hid (owns_but hRw.out hk3 (fun i h1 h2 => by have := (World.ownsRow.lt hRw.out i h1).1; omega))
      clear hk3 hF3
      go_wp2_with fail
      go_roundg j
      case measure => omega
      case rel => exact ⟨j, _, by omega, rfl, rfl, hF4.out, hSr.out.told3 Fs g p2 p1, by rw [htk.out]; exact told_step hTr.out p2 p1, hK4.out, hR4.out⟩
    · obtain rfl : r = 0 := by omega
      rw [Nat.sub_zero] at hTr
      go_wp2_with fail
      go_loopg [29] ls.length (fun gn i wr => ∃ (k : Nat) (f' : Fo), k ≤ ls.length ∧ gn = ls.length - k ∧ i = .int .i64 k ∧ FoW wr G f' ∧ SameF f f' ∧ Told Fs g f' (g.tells.take (ls.length + k)) ∧ KeptBut w wr (fun i => i = G) ∧ wr.ownsRow w.heap.size 138 2 (.slice Ab ls.length cb) ls.length (brC ls))
      case atStart => exact ⟨0, f', Nat.zero_le _, rfl, rfl, hFr.out, hSr.out, hTr.out, hKr.out, hRr.out⟩
      case round =>
        obtain ⟨k, f2, hk, hgn, rfl, hF, hS, hT, hK, hR⟩ := hrel
        have hgk : gk = ls.length - k := hgn
        have hFk := Lib.hid hF
        have hSk := Lib.hid hS
        have hTk := Lib.hid hT
        have hKk := Lib.hid hK
        have hRk := Lib.hid hR
        clear hgn hF hS hT hK hR hFr hSr hTr hKr hRr
        by_cases hlt : k < ls.length
        · obtain ⟨p, hp⟩ : ∃ p, ls[k]? = some p := ⟨_, List.getElem?_eq_getElem hlt⟩
          obtain ⟨gb, rfl, hgb, c0, c1⟩ := row_at hRk.out hp
          have hpm := hsm.out p (List.mem_of_getElem? hp)
          have hdn1 := hdn.out k p hp
          have hnx := htn.out _ p.1 p.2 hdn1
          have hcT := Lib.hid (fun wx hx hk => cT.out p.1 p.2 f2 hSk.out wx hx hk hpm.1 hpm.2 hnx.1 (fun q hq x hx => hTk.out q p.1 (hnx.2 q hq) x hx))
          have htk := Lib.hid (show g.tells.take (ls.length + (k + 1)) = g.tells.take (ls.length + k) ++ [(p.1, p.2)] from by
            obtain ⟨hl1, he1⟩ := List.getElem?_eq_some_iff.1 hdn1
            rw [show ls.length + (k + 1) = ls.length + k + 1 by omega, List.take_succ_eq_append_getElem hl1, he1])
          have hk0 : (0 : Int) ≤ (k : Int) := by omega
          have hk1 : (k : Int) < (ls.length : Int) := by omega
          obtain ⟨p1, p2⟩ := p
          simp only at c0 c1 hpm hcT htk
          have hKw := Lib.hid (hKk.out.alloc (.cells #[.int .i64 p1, .int .i64 p2] 138))
          have hRw := Lib.hid (World.ownsRow.alloc hRk.out (.cells #[.int .i64 p1, .int .i64 p2] 138))
          have hFw := Lib.hid (hFk.out.alloc (.cells #[.int .i64 p1, .int .i64 p2] 138))
          have hX := Lib.hid (Has.new wr 138 #[.int .i64 p1, .int .i64 p2])
          have x0 := hX.out.cell 0
          have x1 := hX.out.cell 1
          clear hdn1 hnx hp
          go_wp2_with fail
          clear c0 c1 x0 x1
          refine (hcT.out _ hFw.out hKw.out).mono ?_
          rintro e w3 ⟨rfl, hk3, hF3⟩
          have hF4 := Lib.hid (show FoW w3 G (told3 Fs g f2 p1 p2) from hF3)
          have hK4 := Lib.hid (hKw.out.trans hk3 (fun _ _ h => h))
          have hR4 := Lib.hid (owns_but hRw.out hk3 (fun i h1 h2 => by have := (World.ownsRow.lt hRw.out i h1).1; omega))
          clear hk3 hF3
          go_wp2_with fail
          go_roundg (ls.length - (k + 1))
          case measure => omega
          case rel => exact ⟨k + 1, _, by omega, rfl, by go_num, hF4.out, hSk.out.told3 Fs g p1 p2, by rw [htk.out]; exact told_step hTk.out p1 p2, hK4.out, hR4.out⟩
        · obtain rfl : k = ls.length := by omega
          have hfull : g.tells.take (ls.length + ls.length) = g.tells := List.take_of_length_le (by rw [htl.out]; exact Nat.le_refl _)
          rw [hfull] at hTk
          clear hfull
          go_wp2_with fail
          go_end0
          exact ⟨rfl, hKk.out, f2, hFk.out, hSk.out, hTk.out⟩
end Go.Proofs.Ytghkpmafocacoaa

namespace Go.Proofs.Ytghkpmafocacoaa
set_option maxRecDepth 100000
set_option linter.unusedVariables false
open Go.RowKit
def belR (Fs : List Fac) (v : Int) : List Int := if (treeOk Fs && inB v 0 3) = true then [IntKind.i64.wrap (allT Fs (gOf Fs) v.toNat 4 0), IntKind.i64.wrap (allT Fs (gOf Fs) v.toNat 4 1), IntKind.i64.wrap (allT Fs (gOf Fs) v.toNat 4 2)] else []
theorem ownR_len (Fs : List Fac) (v : Int) : (ownR Fs v).length ≤ 4 := by unfold ownR; split <;> simp
theorem tree_parts {Fs : List Fac} (h : treeOk Fs = true) : listOk Fs = true ∧ grL Fs = some (gOf Fs) := by
  unfold treeOk at h
  rw [Bool.and_eq_true] at h
  refine ⟨h.1, ?_⟩
  unfold gOf
  cases hq : grL Fs with
  | none => rw [hq] at h; cases h.2
  | some g => rfl
theorem list_nine {Fs : List Fac} (h : listOk Fs = true) : ∀ F ∈ Fs, facOk 9 F = true := by
  unfold listOk at h
  rw [Bool.and_eq_true] at h
  exact List.all_eq_true.1 h.2
theorem tree_fst {Fs : List Fac} (h : treeOk Fs = true) : Fst Fs (gOf Fs) ∧ (∀ F ∈ Fs, facOk 9 F = true) ∧ ∀ v x, 0 ≤ ownL Fs v x ∧ ownL Fs v x ≤ 43046721 := by
  obtain ⟨h1, h2⟩ := tree_parts h
  refine ⟨fst_all h1 h2, list_nine h1, fun v x => ?_⟩
  have := ownL_small h1 v x Fs.length
  rwa [List.take_of_length_le (Nat.le_refl _)] at this
set_option maxHeartbeats 1000000 in
theorem BeliefOf_any (A : Option Addr) (n c : Nat) (Fs : List Fac) (v : Int) (w : World) (h : FLst w w.heap.size A n Fs) (hn : n ≤ maxLen) (hsm : smallF Fs) :
    Calls Try.prog 47 #[.slice A n c, .int .i64 v] w (Rtd w (belR Fs v) (treeOk Fs && inB v 0 3)) := by
  obtain ⟨hzero, hsize⟩ := zero_of_info (P := Try.prog) info_forest
  have cF := Lib.hid (fun wx hx => forestOf_any A n c Fs wx hx hn hsm)
  have hI := Lib.hid h
  have hs0 := fz.size
  have hbu := zero_fz
  obtain ⟨zc, hzc⟩ : ∃ zc, fz.cells = zc := ⟨_, rfl⟩
  rw [hzc] at hzero hs0 hbu
  have hs0h := Lib.hid hs0
  have hszh := Lib.hid hsize
  have cV := Lib.hid (fun wx => varOk_any v wx)
  clear hsize h hsm hzc hs0
  go_enter Try.func47, Try.ntmps47
  go_wp2_with fail
  refine (cF.out _ hI.out).mono ?_
  rintro e w1 ⟨hb1, f, rfl, hone, hgt⟩
  have hs97 := Lib.hid f.size
  have hofc := Lib.hid (Fo.one f hone)
  obtain ⟨fc, hfc⟩ : ∃ fc, f.cells = fc := ⟨_, rfl⟩
  rw [hfc] at hs97 hofc ⊢
  have hN := Lib.hid (fof_store (zc := zc) hb1 hs0h.out hs97.out)
  have hT1 := Lib.hid (show (w1.alloc (.cells zc 102)).there w1.heap.size 0 fc.size from by rw [hs97.out]; exact room97 (Has.new w1 102 zc) hs0h.out)
  have hZ2 := Lib.hid (show (Try.prog.info? 102).map (·.size) = some fc.size from by rw [hszh.out, hs97.out])
  have hbh := Lib.hid hb1
  have hfch := Lib.hid hfc
  clear hone hb1 hfc
  cases htt : treeOk Fs
  · have htth := Lib.hid htt
    clear htt hgt
    go_wp2_with (first
      | (refine wpList_store_mid rfl 102 (.tmp 6) (.tmp 12) rfl w1.heap.size 0 fc (by rfl) (by rfl) hT1.out hZ2.out hofc.out ?_))
    have hR := Lib.hid (show belR Fs v = [] by unfold belR; rw [htth.out]; rfl)
    go_ret2
    rw [hR.out, htth.out]
    exact ⟨_, rfl, .inl ⟨rfl, rfl⟩, hN.out.2.1⟩
  obtain ⟨g, hgr, hfr⟩ := hgt htt
  have htth := Lib.hid htt
  have hgh := Lib.hid (show gOf Fs = g by unfold gOf; rw [hgr]; rfl)
  have hfrh := Lib.hid hfr
  clear htt hgt hgr hfr
  have hNx := Lib.hid (show FoW ((w1.alloc (.cells zc 102)).setCells w1.heap.size 0 fc.toList) w1.heap.size f from by unfold FoW; rw [hfch.out]; exact hN.out.1)
  cases hv : inB v 0 3
  · have hR := Lib.hid (show belR Fs v = [] by unfold belR; rw [hv, Bool.and_false]; rfl)
    have hok := Lib.hid (show (treeOk Fs && inB v 0 3) = false by rw [hv, Bool.and_false])
    rw [hv] at cV
    clear hv
    go_wp2_with (first
      | (refine wpList_store_mid rfl 102 (.tmp 6) (.tmp 12) rfl w1.heap.size 0 fc (by rfl) (by rfl) hT1.out hZ2.out hofc.out ?_)
      | (go_at_call 97; refine (cV.out _).mono ?_; rintro e w' ⟨rfl, rfl⟩))
    go_ret2
    rw [hR.out, hok.out]
    exact ⟨_, rfl, .inl ⟨rfl, rfl⟩, hN.out.2.1⟩
  · have hvb := inB_iff.1 hv
    obtain ⟨k, rfl, hk⟩ := nat4 hvb.1 hvb.2
    have hR := Lib.hid (show belR Fs (k : Int) = [IntKind.i64.wrap (allT Fs g k 4 0), IntKind.i64.wrap (allT Fs g k 4 1), IntKind.i64.wrap (allT Fs g k 4 2)] by unfold belR; rw [htth.out, hv, hgh.out]; rfl)
    have hok := Lib.hid (show (treeOk Fs && inB (k : Int) 0 3) = true by rw [htth.out, hv]; rfl)
    have hfst := Lib.hid (tree_fst htth.out)
    rw [hgh.out] at hfst
    have hrr := Lib.hid (hfrh.out.below (hN.out.2.2.mono hbh.out.size))
    have cT := Lib.hid (fun wx hx hy => tellAll_any w.heap.size w1.heap.size hbh.out.size f g Fs wx hx hy hfst.out.2.1 hfst.out.1 hfst.out.2.2)
    have hmem := Lib.hid (fun r (hr : r ∈ nbs g k 4) => (tells_ok g hfst.out.1.acy).2.2 ⟨r, by have := (nbs_mem hr).1; omega⟩ ⟨k, by omega⟩ (by have h1 := (nbs_mem hr).2.1; have h2 := (prs_row g ⟨k, by omega⟩).2.2.2.2 ⟨r, by have := (nbs_mem hr).1; omega⟩; simp only at h2 ⊢; rw [← h2]; exact h1))
    have cK := Lib.hid (fun wx f3 hx hy hz => known_any w.heap.size w1.heap.size f3 g Fs k (-1) 4 wx hx hy (by omega) (by decide) (by decide) hfst.out.2.2 hz)
    rw [hv] at cV
    have hk0 : (0 : Int) ≤ (k : Int) := by omega
    have hk4 : (k : Int) < 4 := by omega
    have hB2 := Lib.hid hN.out.2.1
    clear hv hvb
    go_wp2_with (first
      | (refine wpList_store_mid rfl 102 (.tmp 6) (.tmp 12) rfl w1.heap.size 0 fc (by rfl) (by rfl) hT1.out hZ2.out hofc.out ?_)
      | (go_at_call 97; refine (cV.out _).mono ?_; rintro e w' ⟨rfl, rfl⟩)
      | (go_at_call 92; refine (cT.out _ hNx.out hrr.out).mono ?_; rintro e w3 ⟨rfl, hk3, f3, hf3, hs3, ht3⟩; have hB3 := Lib.hid (hB2.out.trans (hk3.below (B := w.heap.size) (fun i hi e => by have := hbh.out.size; omega) hB2.out.size)); have hF3 := Lib.hid hf3; have hT3 := Lib.hid (fun r (hr : r ∈ nbs g k 4) x (hx : x ≤ 2) => ht3 r k (hmem.out r hr) x hx); have hS3 := Lib.hid ((hrr.out.below (hk3.below (B := w.heap.size) (fun i hi e => by have := hbh.out.size; omega) hB2.out.size)).same hs3); clear hk3 hf3 ht3 hs3))
    refine (cK.out w3 f3 hF3.out hS3.out hT3.out).mono ?_
    rintro e w4 ⟨rfl, hb4⟩
    have hB4 := Lib.hid (hB3.out.trans (hb4.mono hB3.out.size))
    clear hb4
    obtain ⟨q, hq⟩ : ∃ q : Nat → Int, (fun x => IntKind.i64.wrap (allT Fs g k 4 x)) = q := ⟨_, rfl⟩
    rw [hq]
    have hq0 := Lib.hid (congrFun hq 0 : IntKind.i64.wrap (allT Fs g k 4 0) = q 0)
    have hq1 := Lib.hid (congrFun hq 1 : IntKind.i64.wrap (allT Fs g k 4 1) = q 1)
    have hq2 := Lib.hid (congrFun hq 2 : IntKind.i64.wrap (allT Fs g k 4 2) = q 2)
    clear hq
    unfold A3
    have hX := Lib.hid (Has.new w4 45 #[.int .i64 (q 0), .int .i64 (q 1), .int .i64 (q 2)])
    have hB5 := Lib.hid (hB4.out.alloc hB4.out.size (.cells #[.int .i64 (q 0), .int .i64 (q 1), .int .i64 (q 2)] 45))
    go_wp2_with fail
    go_ret2
    rw [hR.out, hok.out, hq0.out, hq1.out, hq2.out]
    refine ⟨_, rfl, .inr ⟨w4.heap.size, 0, _, _, rfl, hB4.out.size, hX.out, fun j d hd => ?_⟩, hB5.out⟩
    rw [Nat.zero_add]
    obtain rfl | rfl | rfl : j = 0 ∨ j = 1 ∨ j = 2 := by
      have := (List.getElem?_eq_some_iff.1 hd).1
      simp at this
      omega
    all_goals
      obtain rfl := Option.some.inj hd
      rfl
end Go.Proofs.Ytghkpmafocacoaa
