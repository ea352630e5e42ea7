/- Parts of the proof: Ab, Gf, Gh, Gi, Gj, Gk, FU, Gn, Ra. -/
import Derived.Test.YtaipdkfbkcknkaaZAC
import Derived.Test.YtaipdkfbkcknkaaZAH
import Derived.Test.YtaipdkfbkcknkaaZAG
import Derived.Test.YtaipdkfbkcknkaaZAA
import Derived.Deep.QuietTactic
import Derived.BigQuiet
import Derived.StillTailTactics
import Derived.Deep.RegionHeld3
import Derived.Deep.RegionLaw
import Derived.Test.YtaipdkfbkcknkaaZAE
namespace Go.Proofs.Ytaipdkfbkcknkaa
set_option maxRecDepth 100000
set_option linter.unusedVariables false
open Go.RowKit
/-- How a list of numbers and whether there is one are told. -/
def Lbd (w : World) (os : List Int) (ok : Bool) (e : Ending) (w' : World) : Prop := ∃ v, e = .returned (.tuple #[v, .bool ok]) ∧ IOwn w' w.heap.size v os ∧ Below w.heap.size w w'
end Go.Proofs.Ytaipdkfbkcknkaa

namespace Go.Proofs.Ytaipdkfbkcknkaa
set_option maxRecDepth 100000
set_option linter.unusedVariables false
open Go.RowKit
def listOk (Fs : List Fac) : Bool := decide (Fs.length ≤ 8) && Fs.all (facOk 9)
def lofTo (Fs : List Fac) : List Int := if listOk Fs = true then (List.range 81).map fun (i : Nat) => prodAt Fs (i : Int) else []
def smallF (Fs : List Fac) : Prop := ∀ F ∈ Fs, F.vs.length ≤ maxLen ∧ F.ns.length ≤ maxLen
theorem fac_nine (F : Fac) : (facOk 1000000000 F && numsOk 9 F.ns) = facOk 9 F := by
  unfold facOk
  cases h : numsOk 9 F.ns
  · simp
  · have h2 : numsOk 1000000000 F.ns = true := List.all_eq_true.2 fun d hd => by
      have := inB_iff.1 (List.all_eq_true.1 h d hd)
      exact inB_iff.2 (by omega)
    rw [h2, Bool.and_true]
theorem facs_take {Fs : List Fac} {k : Nat} {F : Fac} {f : Fac → Bool} (h : Fs[k]? = some F) : (Fs.take (k + 1)).all f = ((Fs.take k).all f && f F) := by
  have hl : k < Fs.length := (List.getElem?_eq_some_iff.1 h).1
  rw [List.take_succ_eq_append_getElem hl, List.all_append]
  simp [(List.getElem?_eq_some_iff.1 h).2]
theorem facs_no {Fs : List Fac} {k : Nat} {F : Fac} {f : Fac → Bool} (h : Fs[k]? = some F) (hf : f F = false) : Fs.all f = false := by
  cases he : Fs.all f
  · rfl
  · have := List.all_eq_true.1 he F (List.mem_of_getElem? h)
    rw [hf] at this
    cases this
set_option maxHeartbeats 1000000 in
theorem factorsOk_any (A : Option Addr) (n c : Nat) (Fs : List Fac) (w : World) (h : FLst w w.heap.size A n Fs) (hn : n ≤ maxLen) (hsm : smallF Fs) :
    Calls Try.prog 69 #[.slice A n c] w fun e w' => e = .returned (.bool (listOk Fs)) ∧ Below w.heap.size w w' := by
  have hI := Lib.hid h
  have hl := h.1
  have hSm := Lib.hid hsm
  unfold maxLen at hn
  clear h hsm
  by_cases hn8 : n ≤ 8
  · have hn8' : ¬ (n : Int) > 8 := by omega
    have hR0 := Lib.hid (show listOk Fs = Fs.all (facOk 9) by unfold listOk; rw [decide_eq_true (by omega), Bool.true_and])
    go_enter Try.func69, Try.ntmps69
    go_wp2_with fail
    go_loopg [10] n (fun gn v wr => ∃ k : Nat, k ≤ n ∧ gn = n - k ∧ v = .int .i64 k ∧ (Fs.take k).all (facOk 9) = true ∧ Below w.heap.size w wr)
    case atStart => exact ⟨0, Nat.zero_le _, rfl, rfl, rfl, Below.refl _ _⟩
    case round =>
      obtain ⟨k, hk, hgn, rfl, hok, hB⟩ := hrel
      have hgk : gk = n - k := hgn
      have hOk := Lib.hid hok
      have hBh := Lib.hid hB
      clear hgn hok
      by_cases hlt : k < n
      · obtain ⟨gl, off, F, B1, m1, e1, B2, m2, e2, rfl, hgl, hFk, cl1, cl2, hFW⟩ := (hI.out.below hB).at_ hlt
        have hk0 : (0 : Int) ≤ (k : Int) := by omega
        have hk1 : (k : Int) < (n : Int) := by omega
        have hz := hB.size
        obtain ⟨hb1, hb2⟩ := hSm.out F (List.mem_of_getElem? hFk)
        have hm1 := hFW.1.1
        have hm2 := hFW.2.1
        have cF := Lib.hid (fun wx hx => FactorOk_any B1 B2 m1 e1 m2 e2 F wx hx (by omega) (by omega))
        have cN := Lib.hid (fun wx hx => numbersOk_any B2 m2 e2 F.ns 9 wx hx (by omega))
        have hnx := Lib.hid (facs_take (f := facOk 9) hFk)
        have hal : Below wr.heap.size wr (wr.alloc (.cells #[.slice B1 m1 e1, .slice B2 m2 e2] 36)) := (Below.refl _ _).alloc (Nat.le_refl _) _
        have hbx := Lib.hid (Has.new wr 36 #[.slice B1 m1 e1, .slice B2 m2 e2])
        have hF0 := Lib.hid (show FacW _ _ B1 m1 B2 m2 F from ((hFW.more hz).keep_ hal).more hal.size)
        have hB0 := Lib.hid (hB.alloc hz (.cells #[.slice B1 m1 e1, .slice B2 m2 e2] 36))
        have hni := Lib.hid (fac_nine F)
        have hFkh := Lib.hid hFk
        clear hFW hal hFk hB
        go_wp2_with fail
        clear cl1 cl2
        generalize wr.alloc (.cells #[.slice B1 m1 e1, .slice B2 m2 e2] 36) = W0 at hbx hF0 hB0 ⊢
        cases hf : facOk 1000000000 F
        · have hR := Lib.hid (show listOk Fs = false by rw [hR0.out]; exact facs_no hFkh.out (by rw [← hni.out, hf]; rfl))
          refine (cF.out _ hF0.out).mono ?_
          rw [hf]
          rintro e w2 ⟨rfl, hb2⟩
          have hB2 := hB0.out.trans (hb2.mono hB0.out.size)
          clear hf hb2
          go_wp2_with fail
          go_ret
          exact ⟨ret_bool hR.out, hB2⟩
        · have hni2 := hni.out
          rw [hf, Bool.true_and] at hni2
          have hni3 := Lib.hid hni2
          refine (cF.out _ hF0.out).mono ?_
          rw [hf]
          rintro e w2 ⟨rfl, hb2⟩
          have hB2 := Lib.hid (hB0.out.trans (hb2.mono hB0.out.size))
          have hF2 := Lib.hid (hF0.out.below hb2)
          have cx := (hbx.out.kept hb2).cell
          clear hf hb2 hni2
          go_wp2_with fail
          cases hq : numsOk 9 F.ns
          · have hR := Lib.hid (show listOk Fs = false by rw [hR0.out]; exact facs_no hFkh.out (by rw [← hni3.out, hq]))
            refine (cN.out _ hF2.out.2).mono ?_
            rw [hq]
            rintro e w3 ⟨rfl, hb3⟩
            have hB3 := hB2.out.trans (hb3.mono hB2.out.size)
            clear hq hb3 cx
            go_wp2_with fail
            go_ret
            exact ⟨ret_bool hR.out, hB3⟩
          · have hR := Lib.hid (show (Fs.take (k + 1)).all (facOk 9) = true by rw [hnx.out, hOk.out, ← hni3.out, hq]; rfl)
            refine (cN.out _ hF2.out.2).mono ?_
            rw [hq]
            rintro e w3 ⟨rfl, hb3⟩
            have hB3 := Lib.hid (hB2.out.trans (hb3.mono hB2.out.size))
            clear hq hb3 cx
            go_wp2_with fail
            go_roundg (n - (k + 1))
            case measure => omega
            case rel => exact ⟨k + 1, by omega, rfl, by go_num, hR.out, hB3.out⟩
      · obtain rfl : k = n := by omega
        have hR := Lib.hid (show listOk Fs = true by rw [hR0.out]; have h1 := hOk.out; rwa [List.take_of_length_le (by omega)] at h1)
        go_wp2_with fail
        go_ret
        exact ⟨ret_bool hR.out, hBh.out⟩
  · have hn8' : (n : Int) > 8 := by omega
    have hR := Lib.hid (show listOk Fs = false by unfold listOk; rw [decide_eq_false (by omega), Bool.false_and])
    go_enter Try.func69, Try.ntmps69
    go_wp2_with fail
    go_ret
    exact ⟨ret_bool hR.out, Below.refl _ _⟩
set_option maxHeartbeats 1000000 in
theorem l8List_any (A : Option Addr) (n c : Nat) (Fs : List Fac) (w : World) (h : FLst w w.heap.size A n Fs) (hn : n ≤ maxLen) (hsm : smallF Fs) :
    Calls Try.prog 66 #[.slice A n c] w fun e w' => e = .returned (.bool (listOk Fs)) ∧ Below w.heap.size w w' := by
  have hI := Lib.hid h
  have hl := h.1
  have hSm := Lib.hid hsm
  unfold maxLen at hn
  clear h hsm
  go_enter Try.func66, Try.ntmps66
  go_wp2_with fail
  go_loopg [3] n (fun gn v wr => ∃ k : Nat, k ≤ n ∧ gn = n - k ∧ v = .int .i64 k ∧ (Fs.take k).all (facOk 9) = true ∧ Below w.heap.size w wr)
  case atStart => exact ⟨0, Nat.zero_le _, rfl, rfl, rfl, Below.refl _ _⟩
  case round =>
    obtain ⟨k, hk, hgn, rfl, hok, hB⟩ := hrel
    have hgk : gk = n - k := hgn
    have hOk := Lib.hid hok
    have hBh := Lib.hid hB
    clear hgn hok
    by_cases hlt : k < n
    · obtain ⟨gl, off, F, B1, m1, e1, B2, m2, e2, rfl, hgl, hFk, cl1, cl2, hFW⟩ := (hI.out.below hB).at_ hlt
      have hk0 : (0 : Int) ≤ (k : Int) := by omega
      have hk1 : (k : Int) < (n : Int) := by omega
      have hz := hB.size
      obtain ⟨hb1, hb2⟩ := hSm.out F (List.mem_of_getElem? hFk)
      have hm1 := hFW.1.1
      have hm2 := hFW.2.1
      have cF := Lib.hid (fun wx hx => l8Factor_any B1 B2 m1 e1 m2 e2 F 9 wx hx (by omega) (by omega))
      have hF0 := Lib.hid (hFW.more hz)
      have hnx := Lib.hid (facs_take (f := facOk 9) hFk)
      have hFkh := Lib.hid hFk
      clear hFW hFk hB
      cases hf : facOk 9 F
      · have hR := Lib.hid (show listOk Fs = false by unfold listOk; rw [facs_no hFkh.out hf, Bool.and_false])
        rw [hf] at cF
        clear hf
        go_wp2_with fail
        refine (cF.out _ hF0.out).mono ?_
        rintro e w2 ⟨rfl, hb2⟩
        have hB2 := hBh.out.trans (hb2.mono hBh.out.size)
        clear hb2
        go_wp2_with fail
        go_ret
        exact ⟨ret_bool hR.out, hB2⟩
      · have hR := Lib.hid (show (Fs.take (k + 1)).all (facOk 9) = true by rw [hnx.out, hOk.out, hf]; rfl)
        rw [hf] at cF
        clear hf
        go_wp2_with fail
        refine (cF.out _ hF0.out).mono ?_
        rintro e w2 ⟨rfl, hb2⟩
        have hB2 := Lib.hid (hBh.out.trans (hb2.mono hBh.out.size))
        clear hb2
        go_wp2_with fail
        go_roundg (n - (k + 1))
        case measure => omega
        case rel => exact ⟨k + 1, by omega, rfl, by go_num, hR.out, hB2.out⟩
    · obtain rfl : k = n := by omega
      have hR := Lib.hid (show listOk Fs = decide ((k : Int) ≤ 8) by
        unfold listOk
        have h1 := hOk.out
        rw [List.take_of_length_le (by omega)] at h1
        rw [h1, Bool.and_true, hl]
        by_cases h8 : k ≤ 8
        · rw [decide_eq_true h8, decide_eq_true (by omega)]
        · rw [decide_eq_false h8, decide_eq_false (by omega)])
      go_wp2_with fail
      go_ret
      exact ⟨ret_bool hR.out, hBh.out⟩
end Go.Proofs.Ytaipdkfbkcknkaa

namespace Go.Proofs.Ytaipdkfbkcknkaa
set_option maxRecDepth 100000
set_option linter.unusedVariables false
open Go.RowKit
/-- The rows of a list of factors. -/
def rowsF (Fs : List Fac) : List (List Int) := Fs.flatMap fun F => [F.vs, F.ns]
theorem rowsF_cons (F : Fac) (Fs : List Fac) : rowsF (F :: Fs) = F.vs :: F.ns :: rowsF Fs := rfl
theorem rowsF_len : ∀ Fs : List Fac, (rowsF Fs).length = Fs.length * 2
  | [] => rfl
  | F :: r => by
    rw [rowsF_cons, List.length_cons, List.length_cons, List.length_cons, rowsF_len r]
    omega
theorem rowsF_get : ∀ {Fs : List Fac} {k : Nat} {F : Fac}, Fs[k]? = some F → (rowsF Fs)[k * 2]? = some F.vs ∧ (rowsF Fs)[k * 2 + 1]? = some F.ns
  | [], k, F, h => by simp at h
  | H :: r, 0, F, h => by
    have e : H = F := by simpa using h
    subst e
    exact ⟨rfl, rfl⟩
  | H :: r, k + 1, F, h => by
    have ih := rowsF_get (Fs := r) (k := k) (F := F) (by simpa using h)
    have e1 : (k + 1) * 2 = k * 2 + 1 + 1 := by omega
    rw [rowsF_cons, e1, List.getElem?_cons_succ, List.getElem?_cons_succ, List.getElem?_cons_succ, List.getElem?_cons_succ]
    exact ih
end Go.Proofs.Ytaipdkfbkcknkaa
namespace Go.Proofs.Ytaipdkfbkcknkaa
set_option maxRecDepth 100000
set_option linter.unusedVariables false
open Go.ChangeShapes Go.WideShapes Go.RowKit Go.Deep
section
variable {H : Type} {enc : TypeId × Value → H} {w : World} {base : Nat}
end
end Go.Proofs.Ytaipdkfbkcknkaa

namespace Go.Proofs.Ytaipdkfbkcknkaa
set_option maxRecDepth 100000
set_option linter.unusedVariables false
open Go.RowKit
/-- A list of factors that a call has made: the outer cells are vs. -/
def RowsF (w : World) (base : Nat) (v : Value) (Fs : List Fac) (vs : List Value) : Prop :=
  w.ownsRow base 36 2 v Fs.length vs ∧ ∀ (i : Nat) (x : Value), vs[i]? = some x → ∃ ds, (rowsF Fs)[i]? = some ds ∧ IOwn w base x ds
theorem fac_ne_int : (3 : TypeId) ≠ 36 := by decide
theorem RowsF.nil (w : World) (base : Nat) : RowsF w base (.slice none 0 0) [] [] := ⟨World.ownsRow_nil w base _ _, fun i x h => by simp at h⟩
theorem RowsF.length {w : World} {base : Nat} {v : Value} {Fs : List Fac} {vs : List Value} (h : RowsF w base v Fs vs) : vs.length = Fs.length * 2 := h.1.1
theorem RowsF.le {w : World} {base base' : Nat} {v : Value} {Fs : List Fac} {vs : List Value} (h : RowsF w base v Fs vs) (hb : base' ≤ base) : RowsF w base' v Fs vs := ⟨owns_le h.1 hb, fun i x hx => by
  obtain ⟨ds, h1, h2⟩ := h.2 i x hx
  exact ⟨ds, h1, owns_le h2 hb⟩⟩
theorem RowsF.but {w w' : World} {base : Nat} {v : Value} {Fs : List Fac} {vs : List Value} {S : Nat → Prop} (h : RowsF w base v Fs vs) (hk : KeptBut w w' S) (hn : ∀ k, v.ownBlock = some k → ¬ S k) (hi : ∀ k cur, Has w k 3 cur → base ≤ k → (∃ x ∈ vs, x.ownBlock = some k) → ¬ S k) : RowsF w' base v Fs vs := by
  refine ⟨owns_but h.1 hk hn, fun i x hx => ?_⟩
  obtain ⟨ds, hd, ho⟩ := h.2 i x hx
  refine ⟨ds, hd, ho.but hk fun k hkb => ?_⟩
  obtain ⟨cur, hc⟩ := owns_has ho hkb
  exact hi k cur hc (World.ownsRow.lt ho k hkb).1 ⟨x, List.mem_of_getElem? hx, hkb⟩
theorem RowsF.below {w w' : World} {base : Nat} {v : Value} {Fs : List Fac} {vs : List Value} (h : RowsF w base v Fs vs) (hb : Below w.heap.size w w') : RowsF w' base v Fs vs :=
  h.but (KeptBut.of_below hb (fun _ => False)) (fun _ _ e => e) (fun _ _ _ _ _ e => e)
theorem RowsF.form {w : World} {base : Nat} {v : Value} {Fs : List Fac} {vs : List Value} (h : RowsF w base v Fs vs) : ∃ A c, v = .slice A Fs.length c ∧ Fs.length ≤ c ∧ c ≤ maxLen := by
  rcases h.1.2 with ⟨hv, hn⟩ | ⟨g, cap, cur, hv, _, _, h1, h2, _⟩
  · exact ⟨none, 0, by rw [hv, hn], by omega, by simp [maxLen]⟩
  · exact ⟨_, cap, hv, h1, h2⟩
theorem cell_add {w : World} {g k : Nat} : w.cell? ((⟨g, 0, none⟩ : Addr).add k) = w.cell? ⟨g, k, none⟩ := by
  congr 1
  unfold Addr.add
  split
  · (rename_i h0; simp at h0 ⊢; try omega)
  · (simp; try omega)
theorem RowsF.at_ {w : World} {base : Nat} {A : Option Addr} {n c k : Nat} {Fs : List Fac} {vs : List Value} (h : RowsF w base (.slice A n c) Fs vs) (hn : Fs.length = n) (hk : k < n) :
    ∃ (g : Nat) (F : Fac) (A1 : Option Addr) (c1 : Nat) (A2 : Option Addr) (c2 : Nat), A = some ⟨g, 0, none⟩ ∧ Fs[k]? = some F ∧ vs[k * 2]? = some (.slice A1 F.vs.length c1) ∧ vs[k * 2 + 1]? = some (.slice A2 F.ns.length c2) ∧ w.cell? ⟨g, k * 2, none⟩ = some (.slice A1 F.vs.length c1) ∧ w.cell? ⟨g, k * 2 + 1, none⟩ = some (.slice A2 F.ns.length c2) ∧ IOwn w base (.slice A1 F.vs.length c1) F.vs ∧ IOwn w base (.slice A2 F.ns.length c2) F.ns ∧ g < w.heap.size := by
  have hvl := h.length
  obtain ⟨F, hF⟩ : ∃ F, Fs[k]? = some F := ⟨_, List.getElem?_eq_getElem (by omega)⟩
  obtain ⟨r1, r2⟩ := rowsF_get hF
  obtain ⟨x, hx⟩ : ∃ x, vs[k * 2]? = some x := ⟨_, List.getElem?_eq_getElem (by omega)⟩
  obtain ⟨y, hy⟩ : ∃ y, vs[k * 2 + 1]? = some y := ⟨_, List.getElem?_eq_getElem (by omega)⟩
  obtain ⟨ds, hds, hxo⟩ := h.2 _ x hx
  obtain ⟨es, hes, hyo⟩ := h.2 _ y hy
  obtain rfl : F.vs = ds := Option.some.inj (r1.symm.trans hds)
  obtain rfl : F.ns = es := Option.some.inj (r2.symm.trans hes)
  obtain ⟨A1, c1, rfl, _, _⟩ := IOwn.form hxo
  obtain ⟨A2, c2, rfl, _, _⟩ := IOwn.form hyo
  rcases h.1.2 with ⟨hv, hn0⟩ | ⟨g, cap, cur, hv, _⟩
  · omega
  · injection hv with e1 _ _
    subst e1
    refine ⟨g, F, A1, c1, A2, c2, rfl, hF, hx, hy, ?_, ?_, hxo, hyo, (World.ownsRow.lt h.1 g rfl).2⟩
    · rw [← World.ownsRow.cells h.1 (g := g) rfl _ _ hx, cell_add]
    · rw [← World.ownsRow.cells h.1 (g := g) rfl _ _ hy, cell_add]
theorem RowsF.flst {w : World} {base : Nat} {A : Option Addr} {n c : Nat} {Fs : List Fac} {vs : List Value} (h : RowsF w base (.slice A n c) Fs vs) (hn : Fs.length = n) : FLst w w.heap.size A n Fs := by
  refine ⟨hn, fun h0 => ?_⟩
  obtain ⟨g, _, _, _, _, _, e, _, _, _, _, _, _, _, hg⟩ := h.at_ hn h0
  refine ⟨g, 0, e, hg, fun k F hF => ?_⟩
  have hk : k < n := by have := (List.getElem?_eq_some_iff.1 hF).1; omega
  obtain ⟨g', F', A1, c1, A2, c2, e', hF', _, _, h1, h2, h3, h4, _⟩ := h.at_ hn hk
  obtain rfl : F' = F := Option.some.inj (hF'.symm.trans hF)
  obtain rfl : g' = g := by rw [e] at e'; injection e' with e'; injection e' with e' _ _; exact e'.symm
  rw [Nat.zero_add]
  exact ⟨A1, _, c1, A2, _, c2, h1, h2, h3.lst, h4.lst⟩
end Go.Proofs.Ytaipdkfbkcknkaa

namespace Go.Proofs.Ytaipdkfbkcknkaa
set_option maxRecDepth 100000
set_option linter.unusedVariables false
open Go.RowKit
theorem info_fac : (Try.prog.info? 36).map (fun i => (i.zero, i.size, i.bytes)) = some (some (.agg #[.slice none 0 0, .slice none 0 0]), 2, 48) := by kernel_rfl
end Go.Proofs.Ytaipdkfbkcknkaa

namespace Go.Proofs.Ytaipdkfbkcknkaa
set_option maxRecDepth 100000
set_option linter.unusedVariables false
open Go.RowKit
/-- The rows' memory is numbered through. -/
def MkdF (w : World) (base : Nat) (A : Option Addr) (n c : Nat) (Fs : List Fac) (vs : List Value) (m : Int) : Prop :=
  w.ownsRow base 36 2 (.slice A n c) n vs ∧ ∀ (i : Nat) (ds : List Int), (rowsF Fs)[i]? = some ds → ∃ Ax cx, vs[i]? = some (.slice Ax ds.length cx) ∧ Ils w w.heap.size Ax ds.length (nums (m + offs (rowsF Fs) i) ds.length)
theorem MkdF.cell {w : World} {base : Nat} {A : Option Addr} {n c k : Nat} {Fs : List Fac} {vs : List Value} {m : Int} (h : MkdF w base A n c Fs vs m) (hL : Fs.length = n) (hk : k < n) :
    ∃ (g : Nat) (F : Fac) (A1 : Option Addr) (c1 : Nat) (A2 : Option Addr) (c2 : Nat), A = some ⟨g, 0, none⟩ ∧ Fs[k]? = some F ∧ w.cell? ⟨g, k * 2, none⟩ = some (.slice A1 F.vs.length c1) ∧ w.cell? ⟨g, k * 2 + 1, none⟩ = some (.slice A2 F.ns.length c2) ∧ Ils w w.heap.size A1 F.vs.length (nums (m + offs (rowsF Fs) (k * 2)) F.vs.length) ∧ Ils w w.heap.size A2 F.ns.length (nums (m + offs (rowsF Fs) (k * 2 + 1)) F.ns.length) := by
  obtain ⟨F, hF⟩ : ∃ F, Fs[k]? = some F := ⟨_, List.getElem?_eq_getElem (by omega)⟩
  obtain ⟨r1, r2⟩ := rowsF_get hF
  obtain ⟨A1, c1, hx, hi⟩ := h.2 _ _ r1
  obtain ⟨A2, c2, hy, hj⟩ := h.2 _ _ r2
  rcases h.1.2 with ⟨hv, hn0⟩ | ⟨g, cap, cur, hv, _⟩
  · omega
  · injection hv with e1 _ _
    subst e1
    refine ⟨g, F, A1, c1, A2, c2, rfl, hF, ?_, ?_, hi, hj⟩
    · rw [← World.ownsRow.cells h.1 (g := g) rfl _ _ hx, cell_add]
    · rw [← World.ownsRow.cells h.1 (g := g) rfl _ _ hy, cell_add]
end Go.Proofs.Ytaipdkfbkcknkaa
namespace Go.Proofs.Ytaipdkfbkcknkaa
set_option maxRecDepth 100000
set_option linter.unusedVariables false
open Go.RowKit
end Go.Proofs.Ytaipdkfbkcknkaa

namespace Go.Proofs.Ytaipdkfbkcknkaa
set_option maxRecDepth 100000
set_option linter.unusedVariables false
open Go.RowKit
theorem FcV.below {w w' : World} {base : Nat} {v1 v2 : Value} {F : Fac} (h : FcV w base v1 v2 F) (hb : Below w.heap.size w w') : FcV w' base v1 v2 F := ⟨h.1.below hb, h.2.1.below hb, h.2.2⟩
theorem FcV.none_ (w : World) (base : Nat) : FcV w base (.slice none 0 0) (.slice none 0 0) ⟨[], []⟩ := ⟨IOwn.nil _ _, IOwn.nil _ _, fun b h => by cases h⟩
theorem FcV.le {w : World} {base base' : Nat} {v1 v2 : Value} {F : Fac} (h : FcV w base v1 v2 F) (hb : base' ≤ base) : FcV w base' v1 v2 F := ⟨owns_le h.1 hb, owns_le h.2.1 hb, h.2.2⟩
theorem FcV.put2 {w : World} {base g : Nat} {v1 v2 : Value} {F : Fac} {cs : Array Value} (h : FcV w base v1 v2 F) (hg : Has w g 36 cs) (x y : Value) : FcV ((w.setCell ⟨g, 0, none⟩ x).setCell ⟨g, 1, none⟩ y) base v1 v2 F := by
  have hk := ((KeptBut.refl w (fun i => i = g)).put (p := ⟨g, 0, none⟩) (fun _ => rfl) x).put (p := ⟨g, 1, none⟩) (fun _ => rfl) y
  exact ⟨h.1.but hk (fun k hk e => iown_ne h.1 hg (by decide) k hk e), h.2.1.but hk (fun k hk e => iown_ne h.2.1 hg (by decide) k hk e), h.2.2⟩
theorem FcV.fac {w : World} {base n1 c1 n2 c2 : Nat} {A1 A2 : Option Addr} {F : Fac} (h : FcV w base (.slice A1 n1 c1) (.slice A2 n2 c2) F) : FacW w w.heap.size A1 n1 A2 n2 F := ⟨h.1.lst, h.2.1.lst⟩
end Go.Proofs.Ytaipdkfbkcknkaa

namespace Go.Proofs.Ytaipdkfbkcknkaa
set_option maxRecDepth 100000
set_option linter.unusedVariables false
open Go.RowKit
/-- Behind an append of one factor. -/
theorem RowsF.append_ {w w' : World} {base : Nat} {v v' u1 u2 : Value} {Fs : List Fac} {vs : List Value} {F : Fac} (h : RowsF w base v Fs vs) (hx : FcV w base u1 u2 F)
    (hN : w'.ownsRow base 36 2 v' (Fs.length + 1) (vs ++ [u1, u2])) (hg : w.grownBy w' v.ownBlock) : RowsF w' base v' (Fs ++ [F]) (vs ++ [u1, u2]) := by
  have hk : KeptBut w w' (fun i => v.ownBlock = some i) := KeptBut.of_grown hg fun k e => e
  have hrow : ∀ y es, IOwn w base y es → IOwn w' base y es := fun y es hy => hy.but hk fun k hkb e => by
    obtain ⟨c1, h1⟩ := owns_has hy hkb
    obtain ⟨c2, h2⟩ := owns_has h.1 e
    exact has_ne h1 h2 fac_ne_int rfl
  have hrf : rowsF (Fs ++ [F]) = rowsF Fs ++ [F.vs, F.ns] := by unfold rowsF; rw [List.flatMap_append]; rfl
  have hrl := rowsF_len Fs
  have hvl := h.length
  refine ⟨by rw [List.length_append]; exact hN, fun i y hy => ?_⟩
  rw [hrf]
  by_cases hi : i < vs.length
  · rw [List.getElem?_append_left hi] at hy
    obtain ⟨es, he, ho⟩ := h.2 i y hy
    exact ⟨es, by rw [List.getElem?_append_left (by omega)]; exact he, hrow y es ho⟩
  · rw [List.getElem?_append_right (by omega)] at hy
    rw [List.getElem?_append_right (by omega), hrl, ← hvl]
    have hi2 := (List.getElem?_eq_some_iff.1 hy).1
    simp at hi2
    obtain h0 | h0 : i - vs.length = 0 ∨ i - vs.length = 1 := by omega
    · rw [h0] at hy ⊢
      have hy' : u1 = y := by simpa using hy
      subst hy'
      exact ⟨F.vs, rfl, hrow _ _ hx.1⟩
    · rw [h0] at hy ⊢
      have hy' : u2 = y := by simpa using hy
      subst hy'
      exact ⟨F.ns, rfl, hrow _ _ hx.2.1⟩
theorem RowsF.blk {w : World} {base : Nat} {v : Value} {Fs : List Fac} {vs : List Value} (h : RowsF w base v Fs vs) : ∀ y ∈ vs, ∀ k, y.ownBlock = some k → k < w.heap.size := fun y hy k hk => by
  obtain ⟨i, hi, rfl⟩ := List.getElem_of_mem hy
  obtain ⟨ds, _, ho⟩ := h.2 i _ (List.getElem?_eq_getElem hi)
  exact (World.ownsRow.lt ho k hk).2
theorem apart_two {w w' : World} {base lo : Nat} {v u1 u2 : Value} {Fs : List Fac} {vs : List Value} {F : Fac} (ha : Apart vs) (h : RowsF w base v Fs vs) (hx : FcV w' w.heap.size u1 u2 F) : Apart (vs ++ [u1, u2]) := by
  have ee : vs ++ [u1, u2] = (vs ++ [u1]) ++ [u2] := by simp
  rw [ee]
  clear ee
  refine (ha.snoc fun y hy k hk e => ?_).snoc fun y hy k hk e => ?_
  · have h1 := h.blk y hy k hk
    have h2 := (World.ownsRow.lt hx.1 k e).1
    omega
  · rcases List.mem_append.1 hy with hy | hy
    · have h1 := h.blk y hy k hk
      have h2 := (World.ownsRow.lt hx.2.1 k e).1
      omega
    · have hy' : y = u1 := by simpa using hy
      subst hy'
      exact hx.2.2 k hk e
end Go.Proofs.Ytaipdkfbkcknkaa

namespace Go.Proofs.Ytaipdkfbkcknkaa
open Go.RowKit Region
section
variable {P : Program} {ops : Array Oper} {Q : Exit → Act → World → Prop} {md : Region.Mode}
/-- Operations one behind the other. -/
def wpSeq (P : Program) (ops : Array Oper) (Q : Exit → Act → World → Prop) : Nat → Nat → Act → World → Prop
  | _, 0, a, w => Q .normal a w
  | i, c + 1, a, w => wpOp P ops Q i (wpSeq P ops Q (i + 1) c) a w
/-- All of the first ones are needed by a later one of them, or by the one behind them. -/
def feedsTo (md : Region.Mode) (ops : Array Oper) (n : Nat) : Bool := (List.range n).all fun k => (List.range (n + 1)).any fun j => decide (k < j) && ((ops[j]?).map fun o => o.after.any fun e => Region.binds md e && decide (e.on = k)).getD false
/-- Each one behind those needs the one ahead of it. -/
def chained (md : Region.Mode) (ops : Array Oper) (n c : Nat) : Bool := (List.range c).all fun i => decide (i = 0) || ((ops[n + i]?).map fun o => o.after.any fun e => Region.binds md e && decide (e.on + 1 = n + i)).getD false
theorem feedsTo_all {listed : Array Bool} {n : Nat} (hn : n < ops.size) (hf : feedsTo md ops n = true) (hc : Clsd md ops listed) (hl : ∀ o, ops[n]? = some o → ∀ e ∈ o.after, Region.binds md e = true → listed.getD e.on false = true) : ∀ d k, n ≤ k + d → k < n → listed.getD k false = true
  | 0, k, h1, h2 => by omega
  | d + 1, k, h1, h2 => by
    have h3 := List.all_eq_true.1 hf k (List.mem_range.2 (by omega))
    obtain ⟨j, hj, h4⟩ := List.any_eq_true.1 h3
    rw [Bool.and_eq_true] at h4
    have hjn := List.mem_range.1 hj
    have hkj := of_decide_eq_true h4.1
    obtain ⟨o, ho⟩ : ∃ o, ops[j]? = some o := ⟨_, Array.getElem?_eq_getElem (by omega)⟩
    have h5 := h4.2
    rw [ho] at h5
    have h6 : (o.after.any fun e => Region.binds md e && decide (e.on = k)) = true := h5
    obtain ⟨e, he, h7⟩ : ∃ e ∈ o.after, (Region.binds md e && decide (e.on = k)) = true := by
      rw [← Array.any_toList] at h6
      obtain ⟨e, he, h7⟩ := List.any_eq_true.1 h6
      exact ⟨e, Array.mem_toList_iff.1 he, h7⟩
    rw [Bool.and_eq_true] at h7
    have hk := of_decide_eq_true h7.2
    rw [← hk]
    by_cases hjl : j = n
    · subst hjl
      exact hl o ho e he h7.1
    · exact hc j o ho (feedsTo_all hn hf hc hl d j (by omega) (by omega)) e he h7.1
theorem getD_any {listed : Array Bool} {k : Nat} (hk : k < listed.size) (d d' : Bool) : listed.getD k d = listed.getD k d' := by
  rw [Array.getD_eq_getD_getElem?, Array.getD_eq_getD_getElem?, Array.getElem?_eq_getElem hk]
  rfl
theorem wpAny_tail {I : Array Bool → Act → World → Prop} {n c : Nat} (hn : ops.size = n + (c + 1)) (hf : feedsTo md ops n = true) (hch : chained md ops n (c + 1) = true)
    (hlt : (List.range ops.size).all (fun k => ((ops[k]?).map fun o => o.after.all fun e => decide (e.on < k)).getD true) = true)
    (hs : ∀ listed a w, I listed a w → ∀ i, i < n → i ∈ Region.ready md ops listed → wpOp P ops Q i (I (listed.setIfInBounds i true)) a w)
    (hl : ∀ listed a w, I listed a w → (∀ k, k < n → listed.getD k false = true) → wpSeq P ops Q n (c + 1) a w) (listed : Array Bool) (a : Act) (w : World) (hI : I listed a w) (hz : listed.size = n + (c + 1)) (h0 : (List.range (n + (c + 1))).all (fun k => !listed.getD k true) = true) (fuel : Nat) (hfu : openOps listed ≤ fuel) : wpAny P md ops Q fuel listed a w := by
  have hfalse : ∀ k, k < n + (c + 1) → listed.getD k false = false := fun k hk => by
    have := List.all_eq_true.1 h0 k (List.mem_range.2 hk)
    rw [getD_any (by omega) true false] at this
    simpa using this
  refine wpAny_inv (I := fun li a w => li.size = n + (c + 1) ∧ ((∀ k, n ≤ k → k < n + (c + 1) → li.getD k false = false) ∧ Clsd md ops li ∧ I li a w ∨ ∃ i, n < i ∧ i ≤ n + (c + 1) ∧ (∀ k, k < i → li.getD k false = true) ∧ (∀ k, i ≤ k → k < n + (c + 1) → li.getD k false = false) ∧ wpSeq P ops Q i (n + (c + 1) - i) a w)) ?_ ?_ fuel listed a w ⟨hz, .inl ⟨fun k _ hk => hfalse k hk, ?_, hI⟩⟩ hfu
  · rintro li a w ⟨hz, h⟩ i hi
    obtain ⟨h0, o, ho, hd⟩ := mem_ready.1 hi
    have hin : i < n + (c + 1) := by
      have := (Array.getElem?_eq_some_iff.1 ho).1
      omega
    have hi0 : li.getD i false = false := by rw [getD_any (by omega) false true]; exact h0
    have hset : ∀ k, k < n + (c + 1) → k ≠ i → (li.setIfInBounds i true).getD k false = li.getD k false := fun k hk hne => getD_set_ne false (Ne.symm hne)
    have hself : (li.setIfInBounds i true).getD i false = true := by
      rw [Array.getD_eq_getD_getElem?, Array.getElem?_setIfInBounds_self_of_lt (by omega)]
      rfl
    rcases h with ⟨hno, hc, hI⟩ | ⟨j, hj1, hj2, hjt, hjf, hq⟩
    · by_cases hil : i < n
      · refine wpOp_mono (fun a' w' h' => ⟨by simpa using hz, .inl ⟨fun k h1 h2 => ?_, clsd_set hc hi, h'⟩⟩) (hs li a w hI i hil hi)
        rw [hset k h2 (by omega)]
        exact hno k h1 h2
      · have hin0 : i = n := by
          apply Classical.byContradiction
          intro hne
          have h1 := List.all_eq_true.1 hch (i - n) (List.mem_range.2 (by omega))
          rw [Bool.or_eq_true] at h1
          rcases h1 with h1 | h1
          · have := of_decide_eq_true h1; omega
          · have e1 : n + (i - n) = i := by omega
            rw [e1, ho] at h1
            have h6 : (o.after.any fun e => Region.binds md e && decide (e.on + 1 = i)) = true := h1
            rw [← Array.any_toList] at h6
            obtain ⟨e, he, h7⟩ := List.any_eq_true.1 h6
            rw [Bool.and_eq_true] at h7
            have h8 := of_decide_eq_true h7.2
            have h9 := hd e (Array.mem_toList_iff.1 he) h7.1
            rw [hno e.on (by omega) (by omega)] at h9
            cases h9
        subst hin0
        have hB := fun k (hk : k < i) => feedsTo_all (by omega) hf hc (fun o' ho' => by
          rw [ho] at ho'
          injection ho' with ho'
          subst ho'
          exact hd) i k (by omega) hk
        refine wpOp_mono (fun a' w' h' => ⟨by simpa using hz, .inr ⟨i + 1, by omega, by omega, fun k hk => ?_, fun k h1 h2 => ?_, ?_⟩⟩) (hl li a w hI hB)
        · by_cases hki : k = i
          · subst hki; exact hself
          · rw [hset k (by omega) hki]; exact hB k (by omega)
        · rw [hset k h2 (by omega)]; exact hno k (by omega) h2
        · have e1 : i + (c + 1) - (i + 1) = c := by omega
          rw [e1]
          exact h'
    · have hij : i = j := by
        apply Classical.byContradiction
        intro hne
        by_cases hlt' : i < j
        · rw [hjt i hlt'] at hi0
          cases hi0
        · have h1 := List.all_eq_true.1 hch (i - n) (List.mem_range.2 (by omega))
          rw [Bool.or_eq_true] at h1
          rcases h1 with h1 | h1
          · have := of_decide_eq_true h1; omega
          · have e1 : n + (i - n) = i := by omega
            rw [e1, ho] at h1
            have h6 : (o.after.any fun e => Region.binds md e && decide (e.on + 1 = i)) = true := h1
            rw [← Array.any_toList] at h6
            obtain ⟨e, he, h7⟩ := List.any_eq_true.1 h6
            rw [Bool.and_eq_true] at h7
            have h8 := of_decide_eq_true h7.2
            have h9 := hd e (Array.mem_toList_iff.1 he) h7.1
            rw [hjf e.on (by omega) (by omega)] at h9
            cases h9
      subst hij
      obtain ⟨d, hd'⟩ : ∃ d, n + (c + 1) - i = d + 1 := ⟨n + (c + 1) - i - 1, by omega⟩
      rw [hd'] at hq
      refine wpOp_mono (fun a' w' h' => ⟨by simpa using hz, .inr ⟨i + 1, by omega, by omega, fun k hk => ?_, fun k h1 h2 => ?_, ?_⟩⟩) hq
      · by_cases hki : k = i
        · subst hki; exact hself
        · rw [hset k (by omega) hki]; exact hjt k (by omega)
      · rw [hset k h2 (by omega)]; exact hjf k (by omega) h2
      · have e1 : n + (c + 1) - (i + 1) = d := by omega
        rw [e1]
        exact h'
  · rintro li a w ⟨hz, h⟩ hr
    have hall := ready_done (by omega) hlt hr
    rcases h with ⟨hno, hc, hI⟩ | ⟨i, hi1, hi2, hit, hif, hq⟩
    · have h1 := hno n (by omega) (by omega)
      rw [hall n (by omega)] at h1
      cases h1
    · have hin : i = n + (c + 1) := by
        apply Classical.byContradiction
        intro hne
        have h1 := hif i (by omega) (by omega)
        rw [hall i (by omega)] at h1
        cases h1
      subst hin
      rw [Nat.sub_self] at hq
      exact hq
  · intro k o ho hk
    have hkn : k < n + (c + 1) := by
      have := (Array.getElem?_eq_some_iff.1 ho).1
      omega
    rw [hfalse k hkn] at hk
    cases hk
end
end Go.Proofs.Ytaipdkfbkcknkaa
