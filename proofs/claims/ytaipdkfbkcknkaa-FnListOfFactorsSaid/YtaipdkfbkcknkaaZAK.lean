/- Parts of the proof: KP, KD, OpB. -/
import Derived.Test.YtaipdkfbkcknkaaZAJ
import Derived.Test.YtaipdkfbkcknkaaZAG
import Derived.Test.YtaipdkfbkcknkaaZAE
import Derived.Test.YtaipdkfbkcknkaaZAC
import Derived.Test.YtaipdkfbkcknkaaZAA
namespace Go.Proofs.Ytaipdkfbkcknkaa
set_option maxRecDepth 100000
set_option linter.unusedVariables false
open Go.RowKit
theorem fold_mul (st : Int) : ∀ (l : List Fac) (m : Int), l.foldl (fun m F => m * fAt F st) m = m * l.foldl (fun m F => m * fAt F st) 1
  | [], m => by show m = m * 1; omega
  | F :: r, m => by
    rw [List.foldl_cons, List.foldl_cons, fold_mul st r (m * fAt F st), fold_mul st r (1 * fAt F st), Int.one_mul, Int.mul_assoc]
theorem prodAt_rev (st : Int) : ∀ l : List Fac, prodAt l.reverse st = prodAt l st
  | [] => rfl
  | F :: r => by
    have ih := prodAt_rev st r
    unfold prodAt at ih ⊢
    rw [List.reverse_cons, List.foldl_append, ih, List.foldl_cons, List.foldl_cons, List.foldl_nil, fold_mul st r (1 * fAt F st), Int.one_mul, Int.mul_comm]
theorem listOk_rev (l : List Fac) : listOk l.reverse = listOk l := by
  unfold listOk
  rw [List.length_reverse, List.all_reverse]
theorem lofTo_rev (l : List Fac) : lofTo l.reverse = lofTo l := by
  unfold lofTo
  rw [listOk_rev]
  split
  · exact List.map_congr_left fun i _ => prodAt_rev _ l
  · rfl
theorem wcInts_eq (A A2 : Option Addr) (n n2 c c2 : Nat) (ds es : List Int) (w : World) (h : Ils w w.heap.size A n ds) (h2 : Ils w w.heap.size A2 n2 es) (hn : n ≤ maxLen) (hn2 : n2 ≤ maxLen) (he : ds = es) :
    Calls Try.prog 43 #[.slice A n c, .slice A2 n2 c2] w fun e w' => e = .returned (.bool true) ∧ Below w.heap.size w w' :=
  (wcInts_any A A2 n n2 c c2 ds es w h h2 hn hn2).mono fun e w' ⟨h1, q, h3⟩ => ⟨by rw [h1, decide_eq_true he], by rw [h3]; exact below_drewN (Below.refl _ _) q⟩
/-- A row of factors of the call's own whose numbers are elder ones. -/
def Bk (w : World) (b : Nat) (v : Value) (Fs : List Fac) (vs : List Value) : Prop :=
  w.ownsRow b 36 2 v Fs.length vs ∧ ∀ j F, Fs[j]? = some F → ∃ (A1 : Option Addr) (n1 c1 : Nat) (A2 : Option Addr) (n2 c2 : Nat), vs[j * 2]? = some (.slice A1 n1 c1) ∧ vs[j * 2 + 1]? = some (.slice A2 n2 c2) ∧ FacW w b A1 n1 A2 n2 F
theorem Bk.length {w : World} {b : Nat} {v : Value} {Fs : List Fac} {vs : List Value} (h : Bk w b v Fs vs) : vs.length = Fs.length * 2 := h.1.1
theorem Bk.form {w : World} {b : Nat} {v : Value} {Fs : List Fac} {vs : List Value} (h : Bk w b v Fs vs) : ∃ A c, v = .slice A Fs.length c ∧ Fs.length ≤ c ∧ c ≤ maxLen := by
  rcases h.1.2 with ⟨hv, hn⟩ | ⟨g, cap, cur, hv, _, _, h1, h2, _⟩
  · exact ⟨none, 0, by rw [hv, hn], by omega, by simp [maxLen]⟩
  · exact ⟨_, cap, hv, h1, h2⟩
theorem Bk.flst {w : World} {b n c : Nat} {A : Option Addr} {Fs : List Fac} {vs : List Value} (h : Bk w b (.slice A n c) Fs vs) (hn : Fs.length = n) (hb : b ≤ w.heap.size) : FLst w w.heap.size A n Fs := by
  refine ⟨hn, fun h0 => ?_⟩
  obtain ⟨g, hA⟩ : ∃ g, A = some ⟨g, 0, none⟩ := by
    rcases h.1.2 with ⟨hv, h9⟩ | ⟨g', cap, cur, hv, _⟩
    · injection hv; omega
    · injection hv with e1 _ _; exact ⟨g', e1⟩
  subst hA
  refine ⟨g, 0, rfl, (World.ownsRow.lt h.1 g rfl).2, fun k F hF => ?_⟩
  obtain ⟨A1, n1, c1, A2, n2, c2, h1, h2, h3⟩ := h.2 k F hF
  have e1 := World.ownsRow.cells h.1 (g := g) rfl _ _ h1
  have e2 := World.ownsRow.cells h.1 (g := g) rfl _ _ h2
  rw [cell_add] at e1 e2
  rw [Nat.zero_add]
  exact ⟨A1, n1, c1, A2, n2, c2, e1, e2, h3.more hb⟩
theorem Bk.append_ {w w' : World} {b m1 d1 m2 d2 : Nat} {D1 D2 : Option Addr} {v v' : Value} {Fs : List Fac} {vs : List Value} {F : Fac} (h : Bk w b v Fs vs) (hx : FacW w b D1 m1 D2 m2 F)
    (hN : w'.ownsRow b 36 2 v' (Fs.length + 1) (vs ++ [.slice D1 m1 d1, .slice D2 m2 d2])) (hb : Below b w w') : Bk w' b v' (Fs ++ [F]) (vs ++ [.slice D1 m1 d1, .slice D2 m2 d2]) := by
  refine ⟨by rw [List.length_append, List.length_singleton]; exact hN, fun j G hG => ?_⟩
  have hl := h.length
  by_cases hj : j < Fs.length
  · rw [List.getElem?_append_left hj] at hG
    obtain ⟨A1, n1, c1, A2, n2, c2, h1, h2, h3⟩ := h.2 j G hG
    exact ⟨A1, n1, c1, A2, n2, c2, by rw [List.getElem?_append_left (by omega)]; exact h1, by rw [List.getElem?_append_left (by omega)]; exact h2, h3.keep_ hb⟩
  · have hjl : j = Fs.length := by
      have := (List.getElem?_eq_some_iff.1 hG).1
      rw [List.length_append, List.length_singleton] at this
      omega
    subst hjl
    rw [List.getElem?_append_right (Nat.le_refl _), Nat.sub_self] at hG
    obtain rfl : F = G := by simpa using hG
    refine ⟨D1, m1, d1, D2, m2, d2, ?_, ?_, hx.keep_ hb⟩
    · rw [List.getElem?_append_right (by omega), hl, Nat.sub_self]; rfl
    · rw [List.getElem?_append_right (by omega), hl, Nat.add_sub_cancel_left]; rfl
theorem Bk.below {w w' : World} {b : Nat} {v : Value} {Fs : List Fac} {vs : List Value} (h : Bk w b v Fs vs) (hb : Below w.heap.size w w') (hbw : b ≤ w.heap.size) : Bk w' b v Fs vs :=
  ⟨owns_but h.1 (KeptBut.of_below hb (fun _ => False)) (fun _ _ e => e), fun j F hF => by
    obtain ⟨A1, n1, c1, A2, n2, c2, h1, h2, h3⟩ := h.2 j F hF
    exact ⟨A1, n1, c1, A2, n2, c2, h1, h2, h3.keep_ (hb.mono hbw)⟩⟩
theorem DrawListOfFactors_any (A : Option Addr) (n c : Nat) (w : World) (h : Byt w w.heap.size A n) (hn : n ≤ c) (hc : c ≤ maxLen) :
    Calls Try.prog 59 #[.slice A n c] w (DrL w) := by
  have hO := Lib.hid (l40Open_any A n c _ h hn hc)
  clear h hc
  go_enter Try.func59, Try.ntmps59
  go_wp2_with fail
  refine (hO.out).mono ?_
  rintro e w1 ⟨rfl, ⟨n', hn', hr1⟩, hb1⟩
  have hz1 := hr1.lt
  have kr1 := Lib.hid hr1
  have kb1 := Lib.hid hb1
  clear hr1 hb1
  go_wp2_with fail
  refine (l8Factors_any w.heap.size A n' c 0 w.heap.size w1 kr1.out (by omega) hn' (by omega)).mono ?_
  rintro e w2 ⟨v, Fs, vs, p', rfl, hR, hl, hbd, hp, hr2, hc2⟩
  have kR := Lib.hid (hR.le (show w.heap.size ≤ w1.heap.size by omega))
  have kB := Lib.hid (kb1.out.trans (hc2.below (B := w.heap.size) (Nat.le_refl _) (by omega)))
  have kbd := Lib.hid (show smallF Fs from fun F hF => by have := hbd F hF; unfold maxLen; omega)
  clear hR hr2 hc2 hbd
  go_wp2_with fail
  go_ret
  exact ⟨v, Fs, vs, rfl, kR.out, hl, kbd.out, kB.out⟩
end Go.Proofs.Ytaipdkfbkcknkaa

namespace Go.Proofs.Ytaipdkfbkcknkaa
set_option maxRecDepth 100000
set_option linter.unusedVariables false
open Go.RowKit
theorem prodAt_bd {Fs : List Fac} (h : Fine Fs) {st : Int} (hs : 0 ≤ st ∧ st ≤ 80) (k : Nat) : 0 ≤ prodAt (Fs.take k) st ∧ prodAt (Fs.take k) st ≤ pb Fs := by
  obtain ⟨h1, h2, _⟩ := prodF_all (Fs := Fs.take k) (fun F hF => h F (List.mem_of_mem_take hF))
  have h3 := fAt_bd h1 (by have := pb_pos (Fs.take k); omega) st
  rw [h2 st hs] at h3
  exact ⟨h3.1, Int.le_trans h3.2 (pb_take Fs k)⟩
end Go.Proofs.Ytaipdkfbkcknkaa

namespace Go.Proofs.Ytaipdkfbkcknkaa
set_option maxRecDepth 100000
open Go.ChangeShapes Go.WideShapes Go.ChangeAt Go.RowKit Go.Deep
set_option maxRecDepth 100000 in
theorem open_bytes {H : Type} {enc : TypeId × Value → H} {w : World} {b0 : Nat} {r : Reach} {v : Value} {d : DataW H} {p : List MemPlace} (hv : Value.okWide Try.prog w r b0 47 v) (h : DataW.Trod enc Try.prog w 0 (fun _ => true) true 47 v d p) :
    ∃ (A : Option Addr) (n c : Nat), v = .slice A n c ∧ n ≤ c ∧ c ≤ maxLen ∧ Byt w w.heap.size A n := by
  obtain ⟨A, n, c, rfl⟩ := okWide_slice Try.underlying47 hv
  obtain ⟨fuel, hf⟩ := h
  rcases open_ints Try.underlying47 Try.underlying5 (by kernel_rfl) hf with ⟨hcs, _⟩ | ⟨x, l, c', zs, hcs, _, hl, hm, hz, _, hcell, hwz⟩
  · simp [Value.cells] at hcs
    obtain ⟨rfl, rfl, rfl⟩ := hcs
    exact ⟨none, 0, 0, rfl, Nat.le_refl _, by simp [maxLen], fun h => absurd h (by omega)⟩
  · simp [Value.cells] at hcs
    obtain ⟨rfl, rfl, rfl⟩ := hcs
    refine ⟨some x, n, c, rfl, hl, hm, fun hn => ?_⟩
    have hz' : zs.length = c := by simpa using hz
    obtain ⟨g, off, spot⟩ := x
    have h0 := hcell 0 (by omega)
    have hspot : spot = none := by simpa [Addr.add] using World.cell?_spot h0
    subst hspot
    have hlt := World.block_lt_of_cell? w _ h0
    refine ⟨g, off, rfl, by simpa [Addr.add] using hlt, fun i hi => ?_⟩
    have hi' : i < zs.length := by omega
    have hw := hwz (zs.getD i 0) (by rw [List.getD_eq_getElem?_getD, List.getElem?_eq_getElem hi']; exact List.getElem_mem hi')
    have hbd := bounds_u8 hw
    refine ⟨zs.getD i 0, ?_, hbd.1, hbd.2⟩
    rw [← hcell i hi']
    congr 1
    unfold Addr.add
    split
    · (rename_i h0; simp; try omega)
    · (simp; try omega)
end Go.Proofs.Ytaipdkfbkcknkaa
