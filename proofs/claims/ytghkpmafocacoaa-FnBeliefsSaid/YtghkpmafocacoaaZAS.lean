/- Parts of the proof: L5. -/
import Derived.Test.YtghkpmafocacoaaZAR
namespace Go.Proofs.Ytghkpmafocacoaa
set_option maxRecDepth 100000
set_option linter.unusedVariables false
open Go.RowKit
/-- A forest in memory is that of the first factors: where its factors' numbers lie is below a block. -/
structure Frs (w : World) (B : Nat) (Fs : List Fac) (g : Gr) (f : Fo) : Prop where
  own : ∀ v x, v ≤ 3 → x ≤ 2 → f.own v x = ownL Fs v x
  root : ∀ v, v ≤ 3 → f.root v = (g.root v : Int)
  prs : f.prs = (g.prs : Int)
  one : ∀ u t, (f.b1 u t).oneCell' = true ∧ (f.b2 u t).oneCell' = true
  btw : ∀ u t, u ≤ 3 → t ≤ 3 → (g.nx u).testBit t = true → ∃ (A1 : Option Addr) (n1 c1 : Nat) (A2 : Option Addr) (n2 c2 : Nat), f.b1 u t = .slice A1 n1 c1 ∧ f.b2 u t = .slice A2 n2 c2 ∧ FacW w B A1 n1 A2 n2 (btw Fs u t)
theorem Frs.below {w w' : World} {B : Nat} {Fs : List Fac} {g : Gr} {f : Fo} (h : Frs w B Fs g f) (hb : Below B w w') : Frs w' B Fs g f := ⟨h.own, h.root, h.prs, h.one, fun u t hu ht he => by
  obtain ⟨A1, n1, c1, A2, n2, c2, e1, e2, e3⟩ := h.btw u t hu ht he
  exact ⟨A1, n1, c1, A2, n2, c2, e1, e2, e3.keep_ hb⟩⟩
/-- The own numbers of a variable while a factor is taken in. -/
def owF (f : Fo) (v : Nat) (ds : List Int) (k : Nat) : Fo := { f with own := fun a x => if a = v ∧ x < k then f.own v x * ds.getD x 0 else f.own a x }
theorem owF_zero (f : Fo) (v : Nat) (ds : List Int) : (owF f v ds 0).cells = f.cells := Fo.same (fun a x _ _ => by
  show (if a = v ∧ x < 0 then f.own v x * ds.getD x 0 else f.own a x) = f.own a x
  rw [if_neg (by omega)]) (fun _ _ => rfl) rfl (fun _ _ _ _ => ⟨rfl, rfl⟩) (fun _ _ _ _ _ _ => rfl)
theorem owF_step {f : Fo} {v k : Nat} {ds : List Int} {d : Int} (h : ds[k]? = some d) : ((owF f v ds k).setOwn v k (f.own v k * d)).cells = (owF f v ds (k + 1)).cells := Fo.same (fun a x _ _ => by
  show (if a = v ∧ x = k then f.own v k * d else if a = v ∧ x < k then f.own v x * ds.getD x 0 else f.own a x) = if a = v ∧ x < k + 1 then f.own v x * ds.getD x 0 else f.own a x
  by_cases e : a = v ∧ x = k
  · obtain ⟨rfl, rfl⟩ := e
    rw [if_pos ⟨rfl, rfl⟩, if_pos ⟨rfl, by omega⟩, List.getD_eq_getElem?_getD, h]
    rfl
  · rw [if_neg e]
    by_cases e2 : a = v ∧ x < k
    · rw [if_pos e2, if_pos ⟨e2.1, by omega⟩]
    · rw [if_neg e2, if_neg (fun q => by
        by_cases e3 : x = k
        · exact e ⟨q.1, e3⟩
        · exact e2 ⟨q.1, by omega⟩)]) (fun _ _ => rfl) rfl (fun _ _ _ _ => ⟨rfl, rfl⟩) (fun _ _ _ _ _ _ => rfl)
set_option maxHeartbeats 2000000 in
theorem takeOwn_any (G : Nat) (f : Fo) (v : Nat) (A1 : Option Addr) (c1 : Nat) (A2 : Option Addr) (c2 : Nat) (ds : List Int) (w : World) (h : FoW w G f) (hv : v ≤ 3) (hF : Ils w w.heap.size A1 1 [(v : Int)]) (hD : Ils w G A2 3 ds) (hb : ∀ x, x ≤ 2 → 0 ≤ f.own v x ∧ f.own v x ≤ 43046721) (hd : ∀ x, 0 ≤ ds.getD x 0 ∧ ds.getD x 0 ≤ 9) :
    Calls Try.prog 140 #[.pointer (some ⟨G, 0, none⟩), .agg #[.slice A1 1 c1, .slice A2 3 c2]] w fun e w' => e = .returned (.bool true) ∧ KeptBut w w' (fun i => i = G) ∧ FoW w' G (owF f v ds 3) := by
  obtain ⟨gl, off, rfl, hgl, hcl⟩ := hF.2 (by decide)
  have cl0 := hcl 0 _ rfl
  have hG : G < w.heap.size := Has.lt h
  have hW0 := Lib.hid (h.alloc (.cells #[.slice (some ⟨gl, off, none⟩) 1 c1, .slice A2 3 c2] 56))
  have hX0 := Lib.hid (Has.new w 56 #[.slice (some ⟨gl, off, none⟩) 1 c1, .slice A2 3 c2])
  have hK0 := Lib.hid ((KeptBut.refl w (fun i => i = G)).alloc (.cells #[.slice (some ⟨gl, off, none⟩) 1 c1, .slice A2 3 c2] 56))
  have cl0' : (w.alloc (.cells #[.slice (some ⟨gl, off, none⟩) 1 c1, .slice A2 3 c2] 56)).cell? ⟨gl, off + 0, none⟩ = _ := ((Below.refl w.heap.size w).alloc (Nat.le_refl _) _).cell (p := ⟨gl, off + 0, none⟩) hgl |>.trans cl0
  rw [Nat.add_zero] at cl0'
  have hDh := Lib.hid (hD.below (((Below.refl w.heap.size w).alloc (Nat.le_refl _) (.cells #[.slice (some ⟨gl, off, none⟩) 1 c1, .slice A2 3 c2] 56)).mono (Nat.le_of_lt hG)))
  have x0 := hX0.out.cell 0
  have x1 := hX0.out.cell 1
  have hbh := Lib.hid hb
  have hdh := Lib.hid hd
  have hv0 : (0 : Int) ≤ (v : Int) := by omega
  have hv4 : (v : Int) < 4 := by omega
  have hgn : w.heap.size ≠ G := by omega
  clear cl0 hcl hF hD h hb hd
  go_enter Try.func140, Try.ntmps140
  go_wp2_with fail
  generalize w.alloc (.cells #[.slice (some ⟨gl, off, none⟩) 1 c1, .slice A2 3 c2] 56) = W0 at *
  clear x0 x1 cl0'
  go_loopg [20] 3 (fun gn i wr => ∃ k : Nat, k ≤ 3 ∧ gn = 3 - k ∧ i = .int .i64 k ∧ FoW wr G (owF f v ds k) ∧ Ils wr G A2 3 ds ∧ KeptBut w wr (fun i => i = G))
  case atStart => exact ⟨0, by omega, rfl, rfl, by unfold FoW; rw [owF_zero]; exact hW0.out, hDh.out, hK0.out⟩
  case round =>
    obtain ⟨k, hk, hgn', rfl, hF, hD, hK⟩ := hrel
    have hgk : gk = 3 - k := hgn'
    have hFh := Lib.hid hF
    have hDk := Lib.hid hD
    have hKh := Lib.hid hK
    clear hgn' hF hD hK
    by_cases hlk : k < 3
    · have hk0 : (0 : Int) ≤ (k : Int) := by omega
      have hk3 : (k : Int) < 3 := by omega
      obtain ⟨g2, off2, d, rfl, hg2, hdk, cd⟩ := hDk.out.at_ hlk
      have hod : (owF f v ds k).own v k = f.own v k := by
        show (if v = v ∧ k < k then _ else _) = _
        rw [if_neg (by omega)]
      have co := (hFh.out.own_cell (v := v) (x := k) hv (by omega) rfl).trans (by rw [hod])
      have cf := Has.frozen hFh.out
      have hb1 := hbh.out k (by omega)
      have hd1 := hdh.out k
      rw [List.getD_eq_getElem?_getD, hdk] at hd1
      have hd2 : 0 ≤ d ∧ d ≤ 9 := hd1
      have hE := Lib.hid (owF_step (f := f) (v := v) hdk)
      have hN := Lib.hid (hFh.out.own_set (v := v) (x := k) hv (by omega) rfl (f.own v k * d))
      have hKn := Lib.hid (hKh.out.put (p := ⟨G, v * 3 + k, none⟩) (fun _ => rfl) (.int .i64 (f.own v k * d)))
      have hDn := Lib.hid (hDk.out.below ((Below.refl G wr).setCell (p := ⟨G, v * 3 + k, none⟩) (Nat.le_refl _) (.int .i64 (f.own v k * d))))
      clear hdk hd1
      generalize f.own v k = z at *
      have hzd := Int.mul_nonneg hb1.1 hd2.1
      have hzm := Int.mul_le_mul hb1.2 hd2.2 hd2.1 (by decide)
      have hw : IntKind.i64.wrap (z * d) = z * d := by rw [IntKind.wrap_i64]; omega
      go_wp2_with fail
      go_still_tail 14, (by kernel_rfl)
      repeat still_step
      try (refine wpStill_nil ?_)
      try (change wpList _ _ _ _ _ (World.drew _))
      go_wp2_with fail
      go_roundg (3 - (k + 1))
      case measure => omega
      case rel => exact ⟨k + 1, by omega, rfl, by go_num, by unfold FoW; rw [← hE.out]; exact hN.out, hDn.out, hKn.out.trans (KeptBut.of_below (Below.refl _ _).drew (fun i => i = G)) (fun _ _ h => h)⟩
    · obtain rfl : k = 3 := by omega
      go_wp2_with fail
      go_ret
      exact ⟨rfl, hKh.out, hFh.out⟩
theorem ownL_snoc (Fs : List Fac) (F : Fac) (v x : Nat) : ownL (Fs ++ [F]) v x = if F.vs = [(v : Int)] then ownL Fs v x * F.ns.getD x 0 else ownL Fs v x := by
  unfold ownL
  rw [List.foldl_append]
  rfl
theorem btw_new {Fs : List Fac} {u t : Nat} {F : Fac} (h : Fs.any (fun F => isP F u t) = false) (hF : isP F u t = true) : btw (Fs ++ [F]) u t = F := by
  unfold btw
  have hq : Fs.find? (fun F => isP F u t) = none := List.find?_eq_none.2 fun x hx hp => List.any_eq_false.1 h x hx hp
  rw [List.find?_append, hq]
  simp [hF]
theorem btw_skip {Fs : List Fac} {u t : Nat} {F : Fac} (hF : isP F u t = false) : btw (Fs ++ [F]) u t = btw Fs u t := by
  unfold btw
  rw [List.find?_append]
  simp [hF]
theorem fac_kept {w w' : World} {B G n1 n2 : Nat} {A1 A2 : Option Addr} {F : Fac} (h : FacW w B A1 n1 A2 n2 F) (hB : B ≤ G) (hk : KeptBut w w' (fun i => i = G)) (hG : G < w.heap.size) : FacW w' B A1 n1 A2 n2 F :=
  h.keep_ (hk.below (B := B) (fun i hi e => by omega) (by omega))
set_option maxHeartbeats 1000000 in
theorem take_any (B G : Nat) (hBG : B ≤ G) (f : Fo) (g : Gr) (Fs : List Fac) (F : Fac) (A1 : Option Addr) (n1 c1 : Nat) (A2 : Option Addr) (n2 c2 : Nat) (w : World) (h : FoW w G f) (hf : Frs w B Fs g f) (hst : Fst Fs g) (hF0 : FacW w B A1 n1 A2 n2 F) (hok : facOk 9 F = true) (hb : ∀ v x, 0 ≤ ownL Fs v x ∧ ownL Fs v x ≤ 43046721) :
    Calls Try.prog 140 #[.pointer (some ⟨G, 0, none⟩), .agg #[.slice A1 n1 c1, .slice A2 n2 c2]] w fun e w' => e = .returned (.bool (addF g F).isSome) ∧ KeptBut w w' (fun i => i = G) ∧ ∀ g', addF g F = some g' → ∃ f', FoW w' G f' ∧ Frs w' B (Fs ++ [F]) g' f' ∧ (∀ u t y, f'.told u t y = f.told u t y) := by
  have hF : FacW w G A1 n1 A2 n2 F := hF0.more hBG
  obtain ⟨q1, q2, q3, q4, q5⟩ := fac_parts hok
  have hl1 := hF.1.1
  have hG : G < w.heap.size := Has.lt h
  by_cases h1 : n1 = 1
  · subst h1
    obtain ⟨v, hv⟩ := one_var hok hl1
    have hn2 : n2 = 3 := by
      have := hF.2.1
      rw [q3, hl1] at this
      exact this.symm
    subst hn2
    have hF1 := hF.1
    rw [hv] at hF1
    have hd := fun x => numsOk_getD (M := 9) (by decide) q2 x
    refine (takeOwn_any G f v.val A1 c1 A2 c2 F.ns w h (by omega) (hF1.more (Nat.le_of_lt hG)) hF.2 (fun x hx => by rw [hf.own v.val x (by omega) hx]; exact hb _ _) hd).mono ?_
    rintro e w' ⟨rfl, hk, hN⟩
    have ha : addF g F = some g := by unfold addF; rw [if_pos hl1]
    rw [ha]
    refine ⟨rfl, hk, fun g' hg' => ?_⟩
    obtain rfl := Option.some.inj hg'
    have hnP : ∀ u t, isP F u t = false := fun u t => by unfold isP; rw [hl1]; rfl
    refine ⟨_, hN, ⟨fun a x ha hx => ?_, fun a ha => hf.root a ha, hf.prs, hf.one, fun u t hu ht he => ?_⟩, fun _ _ _ => rfl⟩
    · rw [ownL_snoc, hv]
      show (if a = v.val ∧ x < 3 then f.own v.val x * F.ns.getD x 0 else f.own a x) = _
      by_cases e : a = v.val
      · subst e
        rw [if_pos ⟨rfl, by omega⟩, if_pos rfl, hf.own _ x (by omega) hx]
      · rw [if_neg (fun q => e q.1), if_neg (fun q => e (by have := (List.cons.inj q).1; omega)), hf.own a x ha hx]
    · obtain ⟨B1, m1, d1, B2, m2, d2, e1, e2, e3⟩ := hf.btw u t hu ht he
      rw [btw_skip (hnP u t)]
      exact ⟨B1, m1, d1, B2, m2, d2, e1, e2, fac_kept e3 hBG hk hG⟩
  · by_cases h2 : n1 = 2
    · subst h2
      obtain ⟨a, b, hab, hv, ea, eb⟩ := pair_two hok hl1
      have hF1 := hF.1
      rw [hv] at hF1
      have ha : addF g F = if g.root a.val = g.root b.val then none else some (g.put a.val b.val) := by
        unfold addF
        rw [if_neg (by omega), if_pos hl1, ea, eb]
      obtain ⟨bb, hbb⟩ : ∃ bb, decide (g.root a.val ≠ g.root b.val) = bb := ⟨_, rfl⟩
      have hJ := Lib.hid (fun wx hx hy => (join_any G f g A1 c1 A2 n2 c2 a b wx hx hab hst.acy hf.root hf.prs hy).mono fun e w' q => (show e = .returned (.bool bb) ∧ _ from ⟨by rw [← hbb]; exact q.1, q.2⟩))
      have hT : Calls Try.prog 140 #[.pointer (some ⟨G, 0, none⟩), .agg #[.slice A1 2 c1, .slice A2 n2 c2]] w fun e w' => e = .returned (.bool (decide (g.root a.val ≠ g.root b.val))) ∧ KeptBut w w' (fun i => i = G) ∧ (g.root a.val ≠ g.root b.val → ∃ f', FoW w' G f' ∧ Joined_ f f' g a.val b.val (.slice A1 2 c1) (.slice A2 n2 c2)) := by
        have hW0 := Lib.hid (h.alloc (.cells #[.slice A1 2 c1, .slice A2 n2 c2] 56))
        have hX0 := Lib.hid (Has.new w 56 #[.slice A1 2 c1, .slice A2 n2 c2])
        have hK0 := Lib.hid ((KeptBut.refl w (fun i => i = G)).alloc (.cells #[.slice A1 2 c1, .slice A2 n2 c2] 56))
        have hI0 := Lib.hid ((hF1.below (((Below.refl w.heap.size w).alloc (Nat.le_refl _) (.cells #[.slice A1 2 c1, .slice A2 n2 c2] 56)).mono (Nat.le_of_lt hG))).more (show G ≤ (w.alloc (.cells #[.slice A1 2 c1, .slice A2 n2 c2] 56)).heap.size by simp; omega))
        have x0 := hX0.out.cell 0
        have x1 := hX0.out.cell 1
        rw [hbb]
        clear hF0 hF hF1 h hf hst hok hb q1 q2 q3 q4 q5 hl1 ha hv ea eb hbb
        go_enter Try.func140, Try.ntmps140
        go_wp2_with fail
        generalize w.alloc (.cells #[.slice A1 2 c1, .slice A2 n2 c2] 56) = W0 at *
        refine (hJ.out _ hW0.out hI0.out).mono ?_
        rintro e w' ⟨rfl, hk, hN⟩
        have hkh := Lib.hid (hK0.out.trans hk (fun _ _ h => h))
        have hNh := Lib.hid hN
        clear hk hN x0 x1
        go_wp2_with fail
        go_ret
        exact ⟨rfl, hkh.out, hNh.out⟩
      refine hT.mono ?_
      rintro e w' ⟨rfl, hk, hN⟩
      rw [ha]
      refine ⟨?_, hk, fun g' hg' => ?_⟩
      · by_cases e : g.root a.val = g.root b.val
        · rw [if_pos e, decide_eq_false (fun q => q e)]; rfl
        · rw [if_neg e, decide_eq_true e]; rfl
      · by_cases e : g.root a.val = g.root b.val
        · rw [if_pos e] at hg'; cases hg'
        rw [if_neg e] at hg'
        obtain rfl := Option.some.inj hg'
        obtain ⟨f', hW, hj⟩ := hN e
        have hi := isP_self F hab hl1 ea eb
        refine ⟨f', hW, ⟨fun v x hv' hx => ?_, hj.root, hj.prs, fun u t => by
          rw [hj.b1, hj.b2]
          exact ⟨by split <;> first | rfl | exact (hf.one u t).1, by split <;> first | rfl | exact (hf.one u t).2⟩, fun u t hu ht he => ?_⟩, fun u t y => ?_⟩
        · rw [ownL_snoc, if_neg (by rw [hv]; simp), hj.own, hf.own v x hv' hx]
        · rw [put_nx g a b hab ⟨u, by omega⟩ ⟨t, by omega⟩, hst.ed ⟨u, by omega⟩ ⟨t, by omega⟩] at he
          have hiu := hi ⟨u, by omega⟩ ⟨t, by omega⟩
          simp only at he hiu
          by_cases hP : isP F u t = true
          · have hn : (u = a.val ∧ t = b.val) ∨ (u = b.val ∧ t = a.val) := by
              rw [hiu, Bool.or_eq_true, decide_eq_true_eq, decide_eq_true_eq] at hP
              rcases hP with ⟨p1, p2⟩ | ⟨p1, p2⟩
              · exact .inl ⟨congrArg Fin.val p1, congrArg Fin.val p2⟩
              · exact .inr ⟨congrArg Fin.val p1, congrArg Fin.val p2⟩
            have hno : Fs.any (fun F => isP F u t) = false := by
              have h5 := hst.ed ⟨u, by omega⟩ ⟨t, by omega⟩
              simp only at h5
              rw [← h5]
              cases hq : (g.nx u).testBit t
              · rfl
              · have h6 := root_near g ⟨u, by omega⟩ ⟨t, by omega⟩ hq
                simp only at h6
                rcases hn with ⟨rfl, rfl⟩ | ⟨rfl, rfl⟩
                · exact absurd h6 e
                · exact absurd h6.symm e
            rw [btw_new hno hP]
            refine ⟨A1, 2, c1, A2, n2, c2, ?_, ?_, fac_kept hF0 hBG hk hG⟩
            · rw [hj.b1, if_pos hn]
            · rw [hj.b2, if_pos hn]
          · have hP' : isP F u t = false := by simpa using hP
            rw [← hiu, hP', Bool.or_false] at he
            have hn : ¬ ((u = a.val ∧ t = b.val) ∨ (u = b.val ∧ t = a.val)) := fun q => by
              apply hP
              rw [hiu, Bool.or_eq_true, decide_eq_true_eq, decide_eq_true_eq]
              rcases q with ⟨p1, p2⟩ | ⟨p1, p2⟩
              · exact .inl ⟨Fin.ext p1, Fin.ext p2⟩
              · exact .inr ⟨Fin.ext p1, Fin.ext p2⟩
            rw [btw_skip hP']
            have he2 := he
            rw [← show (g.nx u).testBit t = Fs.any (fun F => isP F u t) from hst.ed ⟨u, by omega⟩ ⟨t, by omega⟩] at he2
            obtain ⟨B1, m1, d1, B2, m2, d2, e1, e2, e3⟩ := hf.btw u t hu ht he2
            refine ⟨B1, m1, d1, B2, m2, d2, ?_, ?_, fac_kept e3 hBG hk hG⟩
            · rw [hj.b1, if_neg hn, e1]
            · rw [hj.b2, if_neg hn, e2]
        · rw [hj.told]
    · have ha : addF g F = none := by unfold addF; rw [if_neg (by omega), if_neg (by omega)]
      have hX0 := Lib.hid (Has.new w 56 #[.slice A1 n1 c1, .slice A2 n2 c2])
      have hK0 := Lib.hid ((KeptBut.refl w (fun i => i = G)).alloc (.cells #[.slice A1 n1 c1, .slice A2 n2 c2] 56))
      have x0 := hX0.out.cell 0
      have x1 := hX0.out.cell 1
      have hm1 : ((n1 : Int) == 1) = false := by rw [beq_eq_false_iff_ne]; omega
      have hm2 : ((n1 : Int) == 2) = false := by rw [beq_eq_false_iff_ne]; omega
      have hn4 : n1 ≤ 4 := by omega
      rw [ha]
      clear hF0 hF h hf hst hok hb q1 q2 q3 q4 q5 hl1 ha
      go_enter Try.func140, Try.ntmps140
      go_wp2_with fail
      go_ret
      exact ⟨rfl, hK0.out, fun g' hg' => by cases hg'⟩
end Go.Proofs.Ytghkpmafocacoaa
