/- Diagrams: the program's weave, DiagramOf. -/
import Derived.Test.YtghkpmafocacoaaOd
import Derived.Test.YtghkpmafocacoaaAb
import Derived.Deep.LoopGhost
import Derived.Deep.MidRow
import Derived.Deep.WholeRow
namespace Go.Proofs.Ytghkpmafocacoaa
set_option maxRecDepth 100000
set_option linter.unusedVariables false
open Go.RowKit

/-- The numbers of a list, by state. -/
theorem fl_get {os : List Int} {s : Nat} (h : s < os.length) : os[s]? = some (fl os s) := by
  unfold fl
  rw [List.getD_eq_getElem?_getD, List.getElem?_eq_getElem h]; rfl
theorem pow81 {s v : Nat} (hs : s < 3 ^ v) (hv : v ≤ 4) : s < 81 := by
  obtain rfl | rfl | rfl | rfl | rfl : v = 0 ∨ v = 1 ∨ v = 2 ∨ v = 3 ∨ v = 4 := by omega
  all_goals
    simp only [Nat.reducePow] at hs
    omega
theorem mk_step3 (f : Nat → Int) (r : Nat) (ds : List Ce) (s : Nat) {P Q R : List Ce × Nat} (hP : P = mkC f r ds s) (hQ : Q = mkC f r P.1 (s + 3 ^ (3 - r))) (hR : R = mkC f r Q.1 (s + 2 * 3 ^ (3 - r))) : mkC f (r + 1) ds s = cvar R.1 (3 - r) P.2 Q.2 R.2 := by
  subst hP hQ hR
  rw [mkC]
/-- The own block of a weaver's cells is none that was made since. -/
theorem own_far {w : World} {B G : Nat} {T : TypeId} {pre : List Value} {v : Value} {sl : List Int} {ds : List Ce} (h : Wv w B G T pre v sl ds) {k : Nat} (hk : v.ownBlock = some k) : B ≤ k ∧ k < w.heap.size := World.ownsRow.lt h.own k hk
set_option maxHeartbeats 4000000 in
theorem weave_any (B G o Bl n c : Nat) (T : TypeId) (pre : List Value) (A : Option Addr) (os : List Int) (ho : pre.length = o) (hT : T ≠ 47) (hBG : Bl ≤ G) (hBB : Bl ≤ B) (hn : n = 81) :
    ∀ (r u : Nat), u + r = 4 → ∀ (v : Value) (sl : List Int) (ds : List Ce) (s : Nat) (w : World), s < 3 ^ u → Wv w B G T pre v sl ds → Ils w Bl A n os → ds.length + nc r ≤ 250 →
    Calls Try.prog 77 #[.pointer (some ⟨G, o, none⟩), .slice A n c, .int .i64 (u : Int), .int .i64 (s : Int)] w (Wvd w B G T pre v (mkC (fl os) r ds s)) := by
  intro r
  induction r with
  | zero =>
    intro u hu v sl ds s w hs h hI hl
    obtain rfl : u = 4 := by omega
    have hs81 := pow81 hs (by decide)
    have hl' : ds.length ≤ 250 := by rw [nc] at hl; omega
    have cN := Lib.hid (numberCell_any B G o T pre v sl ds (fl os s) w h ho hT hl')
    have hE := Lib.hid (show mkC (fl os) 0 ds s = cput ds (cnum (fl os s)) from rfl)
    obtain ⟨g, off, rfl, hg, hc⟩ := hI.2 (by omega)
    have e0 := hc s _ (fl_get (by rw [hI.1]; omega))
    have hk0 : (0 : Int) ≤ (s : Int) := by omega
    have hk1 : (s : Int) < (n : Int) := by omega
    rw [hE.out]
    generalize fl os s = x at *
    clear h hI hl hl' hc hE hs hs81 hu hn
    go_enter Try.func77, Try.ntmps77
    go_wp2_with fail
    refine cN.out.mono ?_
    rintro e w' ⟨v', sl', rfl, hW, hF⟩
    have hW' := Lib.hid hW
    have hF' := Lib.hid hF
    clear hW hF
    go_wp2_with fail
    go_ret
    exact ⟨v', sl', rfl, hW'.out, hF'.out⟩
  | succ r ih =>
    intro u hu v sl ds s w hs h hI hl
    have hu3 : u ≤ 3 := by omega
    obtain ⟨P, hP⟩ : ∃ P, P = mkC (fl os) r ds s := ⟨_, rfl⟩
    obtain ⟨Q, hQ⟩ : ∃ Q, Q = mkC (fl os) r P.1 (s + 3 ^ (3 - r)) := ⟨_, rfl⟩
    obtain ⟨R, hR⟩ : ∃ R, R = mkC (fl os) r Q.1 (s + 2 * 3 ^ (3 - r)) := ⟨_, rfl⟩
    have hE := Lib.hid (mk_step3 (fl os) r ds s hP hQ hR)
    have l1 := mk_len (fl os) r ds s
    have l2 := mk_len (fl os) r P.1 (s + 3 ^ (3 - r))
    have l3 := mk_len (fl os) r Q.1 (s + 2 * 3 ^ (3 - r))
    rw [← hP] at l1
    rw [← hQ] at l2
    rw [← hR] at l3
    have hl0 : ds.length + (3 * nc r + 1) ≤ 250 := hl
    have hu' : 3 - r = u := by omega
    rw [hu'] at hQ hR hE
    have w0 := Lib.hid (wv_low (x := 0) hs hu3 (by decide))
    have w1 := Lib.hid (wv_low (x := 1) hs hu3 (by decide))
    have w2 := Lib.hid (wv_low (x := 2) hs hu3 (by decide))
    have c0 := Lib.hid (fun wx (hx : Wv wx B G T pre v sl ds) (hi : Ils wx Bl A n os) => ih (u + 1) (by omega) v sl ds s wx (by have := pow_low hs (x := 0) (by decide); simpa using this) hx hi (by omega))
    have c1 := Lib.hid (fun v1 sl1 wx (hx : Wv wx B G T pre v1 sl1 P.1) (hi : Ils wx Bl A n os) => ih (u + 1) (by omega) v1 sl1 P.1 (s + 1 * 3 ^ u) wx (pow_low hs (by decide)) hx hi (by omega))
    have c2 := Lib.hid (fun v1 sl1 wx (hx : Wv wx B G T pre v1 sl1 Q.1) (hi : Ils wx Bl A n os) => ih (u + 1) (by omega) v1 sl1 Q.1 (s + 2 * 3 ^ u) wx (pow_low hs (by decide)) hx hi (by omega))
    have cV := Lib.hid (fun v1 sl1 wx (hx : Wv wx B G T pre v1 sl1 R.1) => varCell_any B G o T pre v1 sl1 R.1 u P.2 Q.2 R.2 wx hx ho hT (by omega))
    have cW := Lib.hid (fun (x : Int) wx => WithValue_any (s : Int) (u : Int) x wx)
    rw [← hP] at c0
    rw [Nat.one_mul, ← hQ] at c1
    rw [← hR] at c2
    rw [Nat.zero_mul, Nat.add_zero] at w0
    rw [Nat.one_mul] at w1
    rw [hE.out]
    have hb0 : Below w.heap.size w (w.alloc (.cells #[.int .i64 0, .int .i64 0, .int .i64 0] 45)) := (Below.refl _ _).alloc (Nat.le_refl _) _
    have hW0 := Lib.hid (h.below hb0)
    have hBw := h.le
    have hsz : (w.alloc (.cells #[.int .i64 0, .int .i64 0, .int .i64 0] 45)).heap.size = w.heap.size + 1 := by simp
    have hI0 := Lib.hid (hI.below (hb0.mono (by omega)))
    have hK0 := Lib.hid (Has.new w 45 #[.int .i64 0, .int .i64 0, .int .i64 0])
    have hF0 := Lib.hid (Wf2.of_below hb0 G v)
    have hfar := Lib.hid (fun k (hk : v.ownBlock = some k) => (own_far h hk))
    have hGw := h.has.lt
    generalize s + 2 * 3 ^ u = s2 at *
    generalize s + 3 ^ u = s1 at *
    have hlen : Hid True := Lib.hid trivial
    clear h hI hl hl0 hP hQ hR hE ih hs l1 l2 l3 hb0 hu' hu hn
    go_enter Try.func77, Try.ntmps77
    have hu4 : ((u : Int) == 4) = false := by
      rw [beq_eq_false_iff_ne]
      omega
    have huw : IntKind.i64.wrap ((u : Int) + 1) = (u : Int) + 1 := by rw [IntKind.wrap_i64]; omega
    go_wp2_with fail
    generalize w.alloc (.cells #[.int .i64 0, .int .i64 0, .int .i64 0] 45) = wA at hW0 hI0 hK0 hF0 hsz ⊢
    generalize hkb : w.heap.size = kb at hK0 hGw hBw hsz hfar ⊢
    have hAz : kb < wA.heap.size := by omega
    have hAz2 : Bl ≤ wA.heap.size := by omega
    clear hsz
    go_loopw [19] (fun i wr => ∃ (vk : Value) (slk : List Int), Wf2 w wr G v vk ∧ kb < wr.heap.size ∧ (∀ k, vk.ownBlock = some k → B ≤ k ∧ k ≠ kb) ∧ Ils wr Bl A n os ∧
        ((i = .int .i64 0 ∧ Wv wr B G T pre vk slk ds ∧ v = vk ∧ sl = slk ∧ Has wr kb 45 #[.int .i64 0, .int .i64 0, .int .i64 0]) ∨
         (i = .int .i64 1 ∧ Wv wr B G T pre vk slk P.1 ∧ Has wr kb 45 #[.int .i64 (P.2 : Nat), .int .i64 0, .int .i64 0]) ∨
         (i = .int .i64 2 ∧ Wv wr B G T pre vk slk Q.1 ∧ Has wr kb 45 #[.int .i64 (P.2 : Nat), .int .i64 (Q.2 : Nat), .int .i64 0]) ∨
         (i = .int .i64 3 ∧ Wv wr B G T pre vk slk R.1 ∧ Has wr kb 45 #[.int .i64 (P.2 : Nat), .int .i64 (Q.2 : Nat), .int .i64 (R.2 : Nat)]))) (fun i _ => 3 - (intOf i).toNat)
    case atStart => exact ⟨v, sl, hF0.out, hAz, fun k hk => ⟨(hfar.out k hk).1, by have := (hfar.out k hk).2; omega⟩, hI0.out, .inl ⟨rfl, hW0.out, rfl, rfl, hK0.out⟩⟩
    case round =>
      obtain ⟨vk, slk, hF, hkz, hfk, hI, hrel⟩ := hrel
      clear hW0 hI0 hK0 hF0 hAz hAz2
      have hIh := Lib.hid hI
      have hFh := Lib.hid hF
      have hfh := Lib.hid hfk
      clear hI hF hfk
      rcases hrel with ⟨rfl, hWv, rfl, rfl, hKb⟩ | ⟨rfl, hWv, hKb⟩ | ⟨rfl, hWv, hKb⟩ | ⟨rfl, hWv, hKb⟩
      · have hWq := Lib.hid hWv
        have hKq := Lib.hid hKb
        have hIq := Lib.hid hIh.out
        clear hWv hKb
        have cW0 := Lib.hid (fun wx => cW.out 0 wx)
        rw [show ((0 : Int)) = ((0 : Nat) : Int) from rfl, w0.out] at cW0
        go_wp2_with fail
        refine (cW0.out _).mono ?_
        rintro e w' ⟨rfl, rfl⟩
        go_wp2_with fail
        refine (c0.out _ hWq.out hIq.out).mono ?_
        rintro e w5 ⟨vn, sln, rfl, hWn0, hFn⟩
        have hKn0 := Has.but hKq.out hFn.but (fun e => by
          rcases e with e | e
          · omega
          · exact (hfh.out _ e).2 rfl)
        have hz5 := hFn.but.size
        have hIn := Lib.hid (ils_wf (B := B) hIh.out hFn hBG (by omega) (fun q hq => Nat.le_trans hBB (hfh.out q hq).1))
        have hfn := Lib.hid (show ∀ q, vn.ownBlock = some q → B ≤ q ∧ q ≠ kb from fun q hq => ⟨(own_far hWn0 hq).1, fun e => by
          rcases hFn.new q hq with e2 | e2
          · exact (hfh.out q e2).2 e
          · omega⟩)
        have hFw := Lib.hid (hFh.out.trans hFn)
        have hkc := hKn0.cell
        have hkf := hKn0.frozen
        have hKn := Lib.hid (hKn0.put 0 (.int .i64 (P.2 : Nat)))
        have hP5 : KeptBut w5 (w5.setCell ⟨kb, 0, none⟩ (.int .i64 (P.2 : Nat))) (fun i => i = kb) := KeptBut.put (S := fun i => i = kb) (p := ⟨kb, 0, none⟩) (KeptBut.refl w5 (fun i => i = kb)) (fun _ => rfl) (.int .i64 (P.2 : Nat))
        have hWn := Lib.hid (show Wv (w5.setCell ⟨kb, 0, none⟩ (.int .i64 (P.2 : Nat))) B G T pre vn sln P.1 from ⟨hWn0.has.but hP5 (by omega), owns_but hWn0.own hP5 (fun q hq => (hfn.out q hq).2), hWn0.tab, Nat.le_trans hWn0.le hP5.size⟩)
        have hIs := Lib.hid (hIn.out.below (hP5.below (B := Bl) (fun i hi e => by omega) (by omega)))
        have hFs := Lib.hid (show Wf2 w (w5.setCell ⟨kb, 0, none⟩ (.int .i64 (P.2 : Nat))) G v vn from ⟨hFw.out.but.trans (hP5.mono (T := fun i => i = kb) (fun i _ e => e)) (fun i hi e => by omega), hFw.out.new⟩)
        have hzs := hP5.size
        clear hWn0 hFn hKn0 hP5
        go_wp2_with fail
        exact ⟨⟨vn, sln, hFs.out, by omega, hfn.out, hIs.out, .inr (.inl ⟨rfl, hWn.out, hKn.out⟩)⟩, by simp [intOf]⟩
      · have hWq := Lib.hid hWv
        have hKq := Lib.hid hKb
        have hIq := Lib.hid hIh.out
        clear hWv hKb
        have cW1 := Lib.hid (fun wx => cW.out 1 wx)
        rw [show ((1 : Int)) = ((1 : Nat) : Int) from rfl, w1.out] at cW1
        go_wp2_with fail
        refine (cW1.out _).mono ?_
        rintro e w' ⟨rfl, rfl⟩
        go_wp2_with fail
        refine (c1.out _ _ _ hWq.out hIq.out).mono ?_
        rintro e w5 ⟨vn, sln, rfl, hWn0, hFn⟩
        have hKn0 := Has.but hKq.out hFn.but (fun e => by
          rcases e with e | e
          · omega
          · exact (hfh.out _ e).2 rfl)
        have hz5 := hFn.but.size
        have hIn := Lib.hid (ils_wf (B := B) hIh.out hFn hBG (by omega) (fun q hq => Nat.le_trans hBB (hfh.out q hq).1))
        have hfn := Lib.hid (show ∀ q, vn.ownBlock = some q → B ≤ q ∧ q ≠ kb from fun q hq => ⟨(own_far hWn0 hq).1, fun e => by
          rcases hFn.new q hq with e2 | e2
          · exact (hfh.out q e2).2 e
          · omega⟩)
        have hFw := Lib.hid (hFh.out.trans hFn)
        have hkc := hKn0.cell
        have hkf := hKn0.frozen
        have hKn := Lib.hid (hKn0.put 1 (.int .i64 (Q.2 : Nat)))
        have hP5 : KeptBut w5 (w5.setCell ⟨kb, 1, none⟩ (.int .i64 (Q.2 : Nat))) (fun i => i = kb) := KeptBut.put (S := fun i => i = kb) (p := ⟨kb, 1, none⟩) (KeptBut.refl w5 (fun i => i = kb)) (fun _ => rfl) (.int .i64 (Q.2 : Nat))
        have hWn := Lib.hid (show Wv (w5.setCell ⟨kb, 1, none⟩ (.int .i64 (Q.2 : Nat))) B G T pre vn sln Q.1 from ⟨hWn0.has.but hP5 (by omega), owns_but hWn0.own hP5 (fun q hq => (hfn.out q hq).2), hWn0.tab, Nat.le_trans hWn0.le hP5.size⟩)
        have hIs := Lib.hid (hIn.out.below (hP5.below (B := Bl) (fun i hi e => by omega) (by omega)))
        have hFs := Lib.hid (show Wf2 w (w5.setCell ⟨kb, 1, none⟩ (.int .i64 (Q.2 : Nat))) G v vn from ⟨hFw.out.but.trans (hP5.mono (T := fun i => i = kb) (fun i _ e => e)) (fun i hi e => by omega), hFw.out.new⟩)
        have hzs := hP5.size
        clear hWn0 hFn hKn0 hP5
        go_wp2_with fail
        exact ⟨⟨vn, sln, hFs.out, by omega, hfn.out, hIs.out, .inr (.inr (.inl ⟨rfl, hWn.out, hKn.out⟩))⟩, by simp [intOf]⟩
      · have hWq := Lib.hid hWv
        have hKq := Lib.hid hKb
        have hIq := Lib.hid hIh.out
        clear hWv hKb
        have cW2 := Lib.hid (fun wx => cW.out 2 wx)
        rw [show ((2 : Int)) = ((2 : Nat) : Int) from rfl, w2.out] at cW2
        go_wp2_with fail
        refine (cW2.out _).mono ?_
        rintro e w' ⟨rfl, rfl⟩
        go_wp2_with fail
        refine (c2.out _ _ _ hWq.out hIq.out).mono ?_
        rintro e w5 ⟨vn, sln, rfl, hWn0, hFn⟩
        have hKn0 := Has.but hKq.out hFn.but (fun e => by
          rcases e with e | e
          · omega
          · exact (hfh.out _ e).2 rfl)
        have hz5 := hFn.but.size
        have hIn := Lib.hid (ils_wf (B := B) hIh.out hFn hBG (by omega) (fun q hq => Nat.le_trans hBB (hfh.out q hq).1))
        have hfn := Lib.hid (show ∀ q, vn.ownBlock = some q → B ≤ q ∧ q ≠ kb from fun q hq => ⟨(own_far hWn0 hq).1, fun e => by
          rcases hFn.new q hq with e2 | e2
          · exact (hfh.out q e2).2 e
          · omega⟩)
        have hFw := Lib.hid (hFh.out.trans hFn)
        have hkc := hKn0.cell
        have hkf := hKn0.frozen
        have hKn := Lib.hid (hKn0.put 2 (.int .i64 (R.2 : Nat)))
        have hP5 : KeptBut w5 (w5.setCell ⟨kb, 2, none⟩ (.int .i64 (R.2 : Nat))) (fun i => i = kb) := KeptBut.put (S := fun i => i = kb) (p := ⟨kb, 2, none⟩) (KeptBut.refl w5 (fun i => i = kb)) (fun _ => rfl) (.int .i64 (R.2 : Nat))
        have hWn := Lib.hid (show Wv (w5.setCell ⟨kb, 2, none⟩ (.int .i64 (R.2 : Nat))) B G T pre vn sln R.1 from ⟨hWn0.has.but hP5 (by omega), owns_but hWn0.own hP5 (fun q hq => (hfn.out q hq).2), hWn0.tab, Nat.le_trans hWn0.le hP5.size⟩)
        have hIs := Lib.hid (hIn.out.below (hP5.below (B := Bl) (fun i hi e => by omega) (by omega)))
        have hFs := Lib.hid (show Wf2 w (w5.setCell ⟨kb, 2, none⟩ (.int .i64 (R.2 : Nat))) G v vn from ⟨hFw.out.but.trans (hP5.mono (T := fun i => i = kb) (fun i _ e => e)) (fun i hi e => by omega), hFw.out.new⟩)
        have hzs := hP5.size
        clear hWn0 hFn hKn0 hP5
        go_wp2_with fail
        exact ⟨⟨vn, sln, hFs.out, by omega, hfn.out, hIs.out, .inr (.inr (.inr ⟨rfl, hWn.out, hKn.out⟩))⟩, by simp [intOf]⟩
      · have hKc := hKb.cell
        have hWq := Lib.hid hWv
        clear hWv hKb
        go_wp2_with fail
        refine (cV.out _ _ _ hWq.out).mono ?_
        rintro e w5 ⟨vn, sln, rfl, hWn0, hFn⟩
        have hWn := Lib.hid hWn0
        have hFw := Lib.hid (hFh.out.trans hFn)
        clear hWn0 hFn hKc
        go_wp2_with fail
        go_ret
        exact ⟨vn, sln, rfl, hWn.out, hFw.out⟩

theorem info_weaver : (Try.prog.info? 84).map (fun i => (i.zero, i.size)) = some (some (.agg (wvC [] (.slice none 0 0) (List.replicate 251 0))), 252) := by kernel_rfl
/-- What DiagramOf tells. -/
def dOf (os : List Int) : List Ce := if lstOk 1000000000 os = true then mkd (fl os) else []
/-- A list of cells of the call's own, and whether it is one. -/
def Cbd (w : World) (ds : List Ce) (ok : Bool) (e : Ending) (w' : World) : Prop := ∃ v, e = .returned (.tuple #[v, .bool ok]) ∧ COwn w' w.heap.size v ds ∧ Below w.heap.size w w'
theorem DiagramOf_any (A : Option Addr) (n c : Nat) (os : List Int) (w : World) (h : Ils w w.heap.size A n os) (hn : n ≤ maxLen) :
    Calls Try.prog 30 #[.slice A n c] w (Cbd w (dOf os) (lstOk 1000000000 os)) := by
  have cL := Lib.hid (listOk_any A n c os 1000000000 w h hn)
  have hH := Lib.hid h
  have hL := h.1
  clear h hn
  cases hk : lstOk 1000000000 os
  · have hR := Lib.hid (show dOf os = [] by unfold dOf; rw [hk]; rfl)
    rw [hk] at cL
    clear hk hL
    go_enter Try.func30, Try.ntmps30
    go_wp2_with fail
    refine cL.out.mono ?_
    rintro e w1 ⟨rfl, hb⟩
    have hB := Lib.hid hb
    clear hb
    go_wp2_with fail
    go_ret2
    exact ⟨_, rfl, by rw [hR.out]; exact COwn.nil _ _, hB.out⟩
  · have hR := Lib.hid (show dOf os = (mkC (fl os) 4 [] 0).1 by unfold dOf; rw [if_pos hk]; rfl)
    have h81 := (lstOk_bd hk).1
    have hn81 : Hid (n = 81) := Lib.hid (by omega)
    rw [hk] at cL
    clear hk hL h81
    obtain ⟨hzero, hsize⟩ := zero_of_info (P := Try.prog) info_weaver
    clear hsize
    have hcw := Lib.hid (rfl : wvC [] (.slice none 0 0) (List.replicate 251 0) = wvC [] (.slice none 0 0) (List.replicate 251 0))
    have hgen : ∃ cs, cs = wvC [] (.slice none 0 0) (List.replicate 251 0) := ⟨_, rfl⟩
    obtain ⟨cs, hcs⟩ := hgen
    rw [← hcs] at hzero
    have hcsh := Lib.hid hcs
    clear hcs hcw
    go_enter Try.func30, Try.ntmps30
    go_wp2_with fail
    refine cL.out.mono ?_
    rintro e w1 ⟨rfl, hb⟩
    have hB1 := Lib.hid (hb.alloc hb.size (.cells cs 84))
    have hz1 := hb.size
    have hI1 := Lib.hid (hH.out.below hB1.out)
    have hW1 : Hid (Wv (w1.alloc (.cells cs 84)) (w1.alloc (.cells cs 84)).heap.size w1.heap.size 84 [] (.slice none 0 0) (List.replicate 251 0) []) := Lib.hid ⟨by rw [← hcsh.out]; exact Has.new _ _ _, COwn.nil _ _, Tab.nil _, Nat.le_refl _⟩
    have hzA : w.heap.size ≤ (w1.alloc (.cells cs 84)).heap.size := hB1.out.size
    clear hb
    go_wp2_with fail
    clear hzero
    generalize w1.alloc (.cells cs 84) = W at hB1 hI1 hW1 hzA ⊢
    generalize w1.heap.size = G at hz1 hW1 ⊢
    have cW : Calls Try.prog 77 #[.pointer (some ⟨G, 0, none⟩), .slice A n c, .int .i64 0, .int .i64 0] W (Wvd W W.heap.size G 84 [] (.slice none 0 0) (mkC (fl os) 4 [] 0)) := weave_any W.heap.size G 0 w.heap.size n c 84 [] A os rfl (by decide) hz1 hzA hn81.out 4 0 rfl (.slice none 0 0) (List.replicate 251 0) [] 0 W (by decide) hW1.out hI1.out (by decide)
    refine cW.mono ?_
    rintro e w2 ⟨v2, sl2, rfl, hW2, hF2⟩
    have hB2 := Lib.hid (hB1.out.trans (hF2.but.below (B := w.heap.size) (fun i hi e => by
      rcases e with e | e
      · omega
      · cases e) hzA))
    have hO2 := Lib.hid (show COwn w2 w.heap.size v2 (mkC (fl os) 4 [] 0).1 from owns_le hW2.own hzA)
    have e0 := (hW2.has.cell 0).trans (wvC_head rfl v2 sl2)
    clear cW hF2 hW2
    go_wp2_with fail
    go_ret2
    exact ⟨_, rfl, by rw [hR.out]; exact hO2.out, hB2.out⟩
end Go.Proofs.Ytghkpmafocacoaa
