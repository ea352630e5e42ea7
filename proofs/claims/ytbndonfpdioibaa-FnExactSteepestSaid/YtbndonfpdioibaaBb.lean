/- All states as a set; a run that begins at a place; whether a skip leads to a place: the program's allStates, runAt and isSkippedTo. -/
import Derived.Test.YtbndonfpdioibaaPo
import Derived.Deep.MidRow
import Derived.Deep.WholeRow
namespace Go.Proofs.Ytbndonfpdioibaa
set_option maxRecDepth 100000
set_option linter.unusedVariables false
open Go.RowKit

/-- The cells of a set of states. -/
def SetA (fa : Array Value) (f : Int → Bool) : Prop := fa.size = 81 ∧ ∀ q : Nat, q < 81 → fa[q]? = some (.bool (f q))
theorem info_set : (Try.prog.info? 183).map (fun i => (i.zero, i.size)) = some (some (.agg (List.toArray (List.replicate 81 (.bool false)))), 81) := by kernel_rfl

/-- Cells written in the midst of a block. -/
theorem has_setCells {g : Nat} {t : TypeId} : ∀ (vs : List Value) (o : Nat) (w : World) (cs : Array Value), Has w g t cs → o + vs.length ≤ cs.size →
    ∃ cs', Has (w.setCells g o vs) g t cs' ∧ cs'.size = cs.size ∧ (∀ j v, vs[j]? = some v → cs'[o + j]? = some v) ∧ ∀ i, (i < o ∨ o + vs.length ≤ i) → cs'[i]? = cs[i]?
  | [], o, w, cs, h, hl => ⟨cs, h, rfl, fun j v hv => by simp at hv, fun i _ => rfl⟩
  | u :: vs, o, w, cs, h, hl => by
    rw [List.length_cons] at hl
    obtain ⟨cs', h1, h2, h3, h4⟩ := has_setCells vs (o + 1) (w.setCell ⟨g, o, none⟩ u) (cs.setIfInBounds o u) (h.put o u) (by simp; omega)
    refine ⟨cs', h1, by rw [h2]; simp, fun j v hv => ?_, fun i hi => ?_⟩
    · cases j with
      | zero =>
        have e : u = v := by simpa using hv
        subst e
        rw [Nat.add_zero, h4 o (by omega), Array.getElem?_setIfInBounds, if_pos rfl, if_pos (by omega)]
      | succ j =>
        have := h3 j v (by simpa using hv)
        rwa [show o + (j + 1) = o + 1 + j by omega]
    · rw [List.length_cons] at hi
      rw [h4 i (by omega), Array.getElem?_setIfInBounds, if_neg (by omega)]
theorem has_setCells_far {g b : Nat} {t : TypeId} {cs : Array Value} (hne : g ≠ b) : ∀ (vs : List Value) (o : Nat) (w : World), Has w g t cs → Has (w.setCells b o vs) g t cs
  | [], o, w, h => h
  | u :: vs, o, w, h => has_setCells_far hne vs (o + 1) _ (h.far (p := ⟨b, o, none⟩) hne u)
theorem below_setCells {B b : Nat} {w0 : World} (hb : B ≤ b) : ∀ (vs : List Value) (o : Nat) (w : World), Below B w0 w → Below B w0 (w.setCells b o vs)
  | [], o, w, h => h
  | u :: vs, o, w, h => below_setCells hb vs (o + 1) _ (h.setCell (p := ⟨b, o, none⟩) hb u)
theorem has_there {w : World} {g : Nat} {t : TypeId} {cs : Array Value} (h : Has w g t cs) {o n : Nat} (hn : o + n ≤ cs.size) : w.there g o n := fun j hj => by
  refine ⟨?_, h.frozen _⟩
  rw [h.cell, Array.getElem?_eq_getElem (by omega)]; rfl
theorem has_range {w : World} {g : Nat} {t : TypeId} {cs : Array Value} (h : Has w g t cs) {o : Nat} {vs : List Value} (hv : ∀ j v, vs[j]? = some v → cs[o + j]? = some v) : w.rangeAt g o vs := fun j v hj => (h.cell _).trans (hv j v hj)
theorem SetA.one {fa : Array Value} {f : Int → Bool} (h : SetA fa f) : fa.all (·.oneCell') = true := by
  refine Array.all_eq_true_iff_forall_mem.2 fun u hu => ?_
  obtain ⟨i, hi, rfl⟩ := Array.mem_iff_getElem.1 hu
  have h2 := h.2 i (by rw [← h.1]; exact hi)
  rw [Array.getElem?_eq_getElem hi] at h2
  rw [Option.some.inj h2]; rfl

theorem results_cell {fn : Func} {p : Tmp} {ty : TypeId} (h : fn.results = #[.cell p ty]) (tmps : Array Value) (P : Program) (w : World) :
    (results fn tmps).run P w = ((asAddr (tmps.getD p undef)).run P w).andThen fun a w₁ => (loadVar ty a).run P w₁ := by
  simp only [results, h]
  simp [Sem.run_bind, Result.andThen]

theorem runAt_any (p : Nat) (st : Int) (w : World) : Calls Try.prog 160 #[.int .i64 p, .int .i64 st] w fun e w' => e = .returned (.agg #[.int .i64 p, .int .i64 st, .int .i64 1]) ∧ Below w.heap.size w w' := by
  go_enter Try.func160, Try.ntmps160
  go_wp2_with fail
  refine bodyPost_ret (v := .agg #[.int .i64 p, .int .i64 st, .int .i64 1]) (by simp [results, Try.results160, go_sem]) rfl ⟨rfl, ?_⟩
  exact (Below.refl _ _).alloc (Nat.le_refl _) _

theorem allStates_any (w : World) : Calls Try.prog 165 #[] w fun e w' => ∃ fa, e = .returned (.agg fa) ∧ SetA fa (fun _ => true) ∧ Below w.heap.size w w' := by
  obtain ⟨hzero, hsize⟩ := zero_of_info (P := Try.prog) info_set
  have hzc : (List.toArray (List.replicate 81 (Value.bool false))).size = 81 := by simp
  have hzb : ∀ u ∈ (List.toArray (List.replicate 81 (Value.bool false))), u = .bool false := fun u hu => by simpa using hu
  generalize List.toArray (List.replicate 81 (Value.bool false)) = zc at hzero hzc hzb
  have hB0 : Below w.heap.size w ((w.alloc (.cells zc 183)).alloc (.cells zc 183)) := ((Below.refl _ _).alloc (Nat.le_refl _) _).alloc (by simp) _
  have hH0 : Has ((w.alloc (.cells zc 183)).alloc (.cells zc 183)) w.heap.size 183 zc := (Has.new w 183 zc).alloc _
  have hH1 : Has ((w.alloc (.cells zc 183)).alloc (.cells zc 183)) (w.heap.size + 1) 183 zc := by
    have := Has.new (w.alloc (.cells zc 183)) 183 zc
    simpa using this
  have hsz := Lib.hid hsize
  have hB0' := Lib.hid hB0
  have hH0' := Lib.hid hH0
  have hH1' := Lib.hid hH1
  have hzc' := Lib.hid hzc
  have hzb' := Lib.hid hzb
  clear hsize hB0 hH0 hH1 hzc hzb
  go_enter Try.func165, Try.ntmps165
  go_wp2_with fail
  clear hzero
  generalize hGG : w.heap.size = G at hB0' hH0' hH1' ⊢
  generalize (w.alloc (.cells zc 183)).alloc (.cells zc 183) = W at hB0' hH0' hH1' ⊢
  go_loopg [3] 81 (fun gn v wr => ∃ (k : Nat) (cs : Array Value), k ≤ 81 ∧ gn = 81 - k ∧ v = .int .i64 k ∧ Has wr G 183 zc ∧ Has wr (G + 1) 183 cs ∧ cs.size = 81 ∧ (∀ q : Nat, q < k → cs[q]? = some (.bool true)) ∧ Below G w wr)
  case atStart => exact ⟨0, zc, by omega, rfl, rfl, hH0'.out, hH1'.out, hzc'.out, fun q hq => by omega, hB0'.out⟩
  case round =>
    obtain ⟨k, cs, hk, hgn, rfl, hH0, hH1, hcz, hct, hB⟩ := hrel
    have hgk : gk = 81 - k := hgn
    clear hgn
    by_cases hlt : k < 81
    · have hk0 : (0 : Int) ≤ (k : Int) := by omega
      have hk1 : (k : Int) < 81 := by omega
      obtain ⟨u, hu⟩ := hH1.size_cell (x := k) (by omega)
      have hfz := hH1.frozen k
      have hN := Lib.hid (hH1.put k (.bool true))
      have hN0 := Lib.hid (hH0.far (p := ⟨G + 1, k, none⟩) (by show G ≠ G + 1; omega) (.bool true))
      have hBn := Lib.hid (hB.setCell (p := ⟨G + 1, k, none⟩) (by show G ≤ G + 1; omega) (.bool true))
      have hct' := Lib.hid hct
      clear hH0 hH1 hct hB
      go_wp2_with fail
      go_roundg (81 - (k + 1))
      case measure => omega
      case rel => exact ⟨k + 1, _, by omega, rfl, by go_num, hN0.out, hN.out, by simpa using hcz, fun q hq => by
        rw [Array.getElem?_setIfInBounds]
        by_cases hqk : k = q
        · rw [if_pos hqk, if_pos (by omega)]
        · rw [if_neg hqk]; exact hct'.out q (by omega), hBn.out⟩
    · obtain rfl : k = 81 := by omega
      have hF := Lib.hid (show SetA cs (fun _ => true) from ⟨hcz, fun q hq => hct q hq⟩)
      have hsize : (Try.prog.info? 183).map (·.size) = some cs.size := by rw [hcz]; exact hsz.out
      have hsizeL : (Try.prog.info? 183).map (·.size) = some cs.toList.length := by simpa using hsize
      obtain ⟨cs', hC1, hC2, hC3, _⟩ := has_setCells cs.toList 0 wr zc hH0 (by simp [hzc'.out, hcz])
      have hC4 : cs' = cs := by
        apply Array.ext_getElem?
        intro q
        by_cases hq : q < cs.size
        · have := hC3 q cs[q] (by simp [hq])
          rw [Nat.zero_add] at this
          rw [this, Array.getElem?_eq_getElem hq]
        · rw [Array.getElem?_eq_none (by rw [hC2, hzc'.out]; omega), Array.getElem?_eq_none (by omega)]
      subst hC4
      have hL1 := Lib.hid hsizeL
      have hS1 := Lib.hid hsize
      have hR1 := Lib.hid (has_range (o := 0) (vs := cs'.toList) hH1 (fun j v hv => by rw [Nat.zero_add]; simpa using hv))
      have hT1 := Lib.hid (has_there (o := 0) (n := cs'.size) hH0 (by rw [hzc'.out, hcz]; exact Nat.le_refl _))
      have hBn := Lib.hid (below_setCells (Nat.le_refl G) cs'.toList 0 _ hB)
      have hlv := Lib.hid (run_loadVar_row (P := Try.prog) _ G 183 183 cs' (0, 0) _ hC1 Try.underlying183 rfl hsize)
      clear hsize hsizeL hH0 hH1 hct hB hcz hC1 hC2 hC3
      go_wp2_with (first
        | (refine wpList_load_mid rfl 183 (.tmp 1) rfl (G + 1) 0 (by simp [Act.eval]) cs'.toList _ hR1.out Try.underlying183 rfl hL1.out ?_)
        | (refine wpList_store_mid rfl 183 (.tmp 0) (.tmp 9) rfl G 0 cs' (by rfl) (by rfl) hT1.out hS1.out hF.out.one ?_))
      refine bodyPost_ret (v := .agg cs') (by rw [results_cell rfl]; simp [asAddr, Result.andThen, Act.put, hlv.out]) rfl ?_
      rw [hGG]
      exact ⟨cs', rfl, hF.out, hBn.out⟩

/-- A skip at a place leads to another. -/
def Leads (os : List St) (j i : Nat) : Prop := ∃ s, os[i]? = some s ∧ s.k = 6 ∧ min (i + 1 + s.b.toNat) os.length = j

theorem isSkippedTo_any (A : Option Addr) (m c : Nat) (os : List St) (j : Nat) (w : World) (h : Lst w w.heap.size A m os) (hm : m ≤ 12) (hM : os.length = m) (hok : ∀ s ∈ os, s.ok = true) :
    Calls Try.prog 167 #[.slice A m c, .int .i64 j] w fun e w' => ∃ b, e = .returned (.bool b) ∧ (∀ i, Leads os j i → b = true) ∧ (b = true → ∃ i, Leads os j i) ∧ Below w.heap.size w w' := by
  have hH := Lib.hid h
  have hMo := Lib.hid hM
  have hOk := Lib.hid hok
  clear h hM hok
  go_enter Try.func167, Try.ntmps167
  go_wp2_with fail
  go_loopg [9] m (fun gn v wr => ∃ (k : Nat), k ≤ m ∧ gn = m - k ∧ v = .int .i64 k ∧ (∀ i, i < k → ¬ Leads os j i) ∧ Below w.heap.size w wr)
  case atStart => exact ⟨0, by omega, rfl, rfl, fun i hi => by omega, Below.refl _ _⟩
  case round =>
    obtain ⟨k, hk, hgn, rfl, hno, hB⟩ := hrel
    have hgk : gk = m - k := hgn
    clear hgn
    have hN := Lib.hid hno
    clear hno
    by_cases hlt : k < m
    · have hLk := (hH.out.below hB).more hB.size
      obtain ⟨gs, off, s, rfl, hgs, hs', hat⟩ := hLk.at_ hlt
      obtain ⟨c0, c1, c2, c3, c4, c5, c6⟩ := hat.open_
      have hso : s.ok = true := hOk.out s (List.mem_of_getElem? hs')
      have hk0 : (0 : Int) ≤ (k : Int) := by omega
      have hk1 : (k : Int) < (m : Int) := by omega
      have hS := Lib.hid hs'
      have hBn := hB.alloc hB.size (.cells #[.int .i64 s.k, .int .i64 s.a, .int .i64 s.b, .int .i64 s.c, .int .i64 s.u, .int .i64 s.v, .int .i64 s.x] 78)
      have hHn := Lib.hid ((hH.out.below hBn).more hBn.size)
      have hBn' := Lib.hid hBn
      clear hs' hat hLk hB hBn
      cases h6 : (s.k == 6)
      · have hNn := Lib.hid (show ∀ i, i < k + 1 → ¬ Leads os j i from fun i hi => by
          by_cases hik : i = k
          · rintro ⟨s', h1, h2, h3⟩
            rw [hik, hS.out] at h1
            have e := Option.some.inj h1
            subst e
            rw [h2] at h6
            exact absurd h6 (by decide)
          · exact hN.out i (by omega))
        go_wp2_with fail
        go_roundg (m - (k + 1))
        case measure => omega
        case rel => exact ⟨k + 1, by omega, rfl, by go_num, hNn.out, hBn'.out⟩
      · have hk6 : s.k = 6 := by simpa using h6
        have hbb : 0 ≤ s.b ∧ s.b ≤ 12 := by
          have := ok_rng (k := s.k) (a := s.a) (b := s.b) (c := s.c) (u := s.u) (v := s.v) (x := s.x) hso
          omega
        have hNk := Lib.hid (show min (k + 1 + s.b.toNat) os.length ≠ j → ∀ i, i < k + 1 → ¬ Leads os j i from fun hne i hi => by
          by_cases hik : i = k
          · rintro ⟨s', h1, h2, h3⟩
            rw [hik, hS.out] at h1
            have e := Option.some.inj h1
            subst e
            exact hne (by rw [← hik]; exact h3)
          · exact hN.out i (by omega))
        have hk6' := Lib.hid hk6
        clear hk6
        have cK := behindSkip_any (some ⟨gs, off, none⟩) m c k os s _ hHn.out hm hlt hS.out hbb
        obtain ⟨z, hz⟩ : ∃ z : Int, ((k + 1 + min s.b.toNat (m - (k + 1)) : Nat) : Int) = z := ⟨_, rfl⟩
        have hzm := Lib.hid (show z ≠ j → min (k + 1 + s.b.toNat) os.length ≠ j from fun hne e => by
          apply hne
          rw [← hz, ← e, hMo.out]
          omega)
        have hzl := Lib.hid (show z = j → Leads os j k from fun e => ⟨s, hS.out, hk6'.out, by rw [hMo.out]; omega⟩)
        rw [hz] at cK
        have cKh := Lib.hid cK
        clear hz cK
        by_cases hj : z = j
        · subst hj
          go_wp2_with (first | (go_at_call 184; refine cKh.out.mono ?_; rintro e w' ⟨rfl, rfl⟩))
          go_ret
          exact ⟨true, rfl, fun _ _ => rfl, fun _ => ⟨k, by first | exact hzl.out rfl | exact hzl.out trivial⟩, hBn'.out⟩
        · have hjb : (z == (j : Int)) = false := by simpa using hj
          have hNn := Lib.hid (hNk.out (hzm.out hj))
          go_wp2_with (first | (go_at_call 184; refine cKh.out.mono ?_; rintro e w' ⟨rfl, rfl⟩))
          go_roundg (m - (k + 1))
          case measure => omega
          case rel => exact ⟨k + 1, by omega, rfl, by go_num, hNn.out, hBn'.out⟩
    · obtain rfl : k = m := by omega
      have hB' := Lib.hid hB
      clear hB
      go_wp2_with fail
      go_ret
      refine ⟨_, rfl, fun i hi => ?_, fun e => absurd e (by decide), hB'.out⟩
      obtain ⟨s, h1, h2, h3⟩ := hi
      have hl := (List.getElem?_eq_some_iff.1 h1).1
      exact absurd ⟨s, h1, h2, h3⟩ (hN.out i (by rw [← hMo.out]; exact hl))
end Go.Proofs.Ytbndonfpdioibaa
