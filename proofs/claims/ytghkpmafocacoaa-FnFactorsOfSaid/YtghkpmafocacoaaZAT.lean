/- Parts of the proof: Fl, Ab, Gf, Gh, Gi, Gj, Gk. -/
import Derived.Test.YtghkpmafocacoaaZAO
import Derived.Test.YtghkpmafocacoaaZAH
import Derived.Test.YtghkpmafocacoaaZAM
import Derived.Test.YtghkpmafocacoaaZAP
namespace Go.Proofs.Ytghkpmafocacoaa
set_option maxRecDepth 100000
set_option linter.unusedVariables false
open Go.RowKit
theorem Ils.but {w w' : World} {B n : Nat} {A : Option Addr} {ds : List Int} {S : Nat → Prop} (h : Ils w B A n ds) (hk : KeptBut w w' S) (hB : B ≤ w.heap.size) (hn : ∀ a, A = some a → ¬ S a.block) : Ils w' w'.heap.size A n ds := by
  refine ⟨h.1, fun h0 => ?_⟩
  obtain ⟨g, off, e, hg, hc⟩ := h.2 h0
  have hgw : g < w.heap.size := Nat.lt_of_lt_of_le hg hB
  refine ⟨g, off, e, Nat.lt_of_lt_of_le hgw hk.size, fun k d hd => (World.cell?_of_block ?_).trans (hc k d hd)⟩
  exact hk.block g hgw (hn _ e)
theorem Pl.and {P R : World → Prop} {lo hi : Nat} {w : World} (h : Pl P lo hi w) (k : Pl R lo hi w) : Pl (fun w => P w ∧ R w) lo hi w :=
  ⟨⟨h.1, k.1⟩, h.2.1, fun a b ha hs hab hk => ⟨h.2.2 a b ha.1 hs hab hk, k.2.2 a b ha.2 hs hab hk⟩⟩
/-- A factor of the call's own, with the bounds of its blocks. -/
def FcB (lo hi : Nat) (v1 : Value) (n1 : Nat) (v2 : Value) (n2 : Nat) (F : Fac) (w : World) : Prop := OwnB lo hi 3 1 n1 v1 (ints F.vs) w ∧ OwnB lo hi 3 1 n2 v2 (ints F.ns) w
theorem FcB.pl {w : World} {base : Nat} {v1 v2 : Value} {F : Fac} (h : FcV w base v1 v2 F) : Pl (FcB base w.heap.size v1 F.vs.length v2 F.ns.length F) base w.heap.size w := (OwnB.pl h.1).and (OwnB.pl h.2.1)
theorem FcB.fac {w : World} {lo hi n1 c1 n2 c2 : Nat} {A1 A2 : Option Addr} {F : Fac} (h : FcB lo hi (.slice A1 n1 c1) n1 (.slice A2 n2 c2) n2 F w) : FacW w w.heap.size A1 n1 A2 n2 F := ⟨ownI_lst h.1.1, ownI_lst h.2.1⟩
end Go.Proofs.Ytghkpmafocacoaa
namespace Go.Proofs.Ytghkpmafocacoaa
set_option maxRecDepth 100000
set_option linter.unusedVariables false
open Go.ChangeShapes Go.WideShapes Go.RowKit Go.Deep
section
variable {H : Type} {enc : TypeId × Value → H} {w : World} {base : Nat}
end
end Go.Proofs.Ytghkpmafocacoaa

namespace Go.Proofs.Ytghkpmafocacoaa
set_option maxRecDepth 100000
set_option linter.unusedVariables false
open Go.RowKit
/-- How a list of numbers and whether there is one are told. -/
def Lbd (w : World) (os : List Int) (ok : Bool) (e : Ending) (w' : World) : Prop := ∃ v, e = .returned (.tuple #[v, .bool ok]) ∧ IOwn w' w.heap.size v os ∧ Below w.heap.size w w'
end Go.Proofs.Ytghkpmafocacoaa

namespace Go.Proofs.Ytghkpmafocacoaa
set_option maxRecDepth 100000
set_option linter.unusedVariables false
open Go.RowKit
def listOk (Fs : List Fac) : Bool := decide (Fs.length ≤ 8) && Fs.all (facOk 9)
def lofTo (Fs : List Fac) : List Int := if listOk Fs = true then (List.range 81).map fun (i : Nat) => prodAt Fs (i : Int) else []
def smallF (Fs : List Fac) : Prop := ∀ F ∈ Fs, F.vs.length ≤ maxLen ∧ F.ns.length ≤ maxLen
theorem fac_nine (F : Fac) : (facOk 1000000000 F && numsOk 9 F.ns) = facOk 9 F := by
  unfold facOk
  cases h : numsOk 9 F.ns
  · simp
  · have h2 : numsOk 1000000000 F.ns = true := List.all_eq_true.2 fun d hd => by
      have := inB_iff.1 (List.all_eq_true.1 h d hd)
      exact inB_iff.2 (by omega)
    rw [h2, Bool.and_true]
theorem facs_take {Fs : List Fac} {k : Nat} {F : Fac} {f : Fac → Bool} (h : Fs[k]? = some F) : (Fs.take (k + 1)).all f = ((Fs.take k).all f && f F) := by
  have hl : k < Fs.length := (List.getElem?_eq_some_iff.1 h).1
  rw [List.take_succ_eq_append_getElem hl, List.all_append]
  simp [(List.getElem?_eq_some_iff.1 h).2]
theorem facs_no {Fs : List Fac} {k : Nat} {F : Fac} {f : Fac → Bool} (h : Fs[k]? = some F) (hf : f F = false) : Fs.all f = false := by
  cases he : Fs.all f
  · rfl
  · have := List.all_eq_true.1 he F (List.mem_of_getElem? h)
    rw [hf] at this
    cases this
set_option maxHeartbeats 1000000 in
theorem factorsOk_any (A : Option Addr) (n c : Nat) (Fs : List Fac) (w : World) (h : FLst w w.heap.size A n Fs) (hn : n ≤ maxLen) (hsm : smallF Fs) :
    Calls Try.prog 108 #[.slice A n c] w fun e w' => e = .returned (.bool (listOk Fs)) ∧ Below w.heap.size w w' := by
  have hI := Lib.hid h
  have hl := h.1
  have hSm := Lib.hid hsm
  unfold maxLen at hn
  clear h hsm
  by_cases hn8 : n ≤ 8
  · have hn8' : ¬ (n : Int) > 8 := by omega
    have hR0 := Lib.hid (show listOk Fs = Fs.all (facOk 9) by unfold listOk; rw [decide_eq_true (by omega), Bool.true_and])
    go_enter Try.func108, Try.ntmps108
    go_wp2_with fail
    go_loopg [10] n (fun gn v wr => ∃ k : Nat, k ≤ n ∧ gn = n - k ∧ v = .int .i64 k ∧ (Fs.take k).all (facOk 9) = true ∧ Below w.heap.size w wr)
    case atStart => exact ⟨0, Nat.zero_le _, rfl, rfl, rfl, Below.refl _ _⟩
    case round =>
      obtain ⟨k, hk, hgn, rfl, hok, hB⟩ := hrel
      have hgk : gk = n - k := hgn
      have hOk := Lib.hid hok
      have hBh := Lib.hid hB
      clear hgn hok
      by_cases hlt : k < n
      · obtain ⟨gl, off, F, B1, m1, e1, B2, m2, e2, rfl, hgl, hFk, cl1, cl2, hFW⟩ := (hI.out.below hB).at_ hlt
        have hk0 : (0 : Int) ≤ (k : Int) := by omega
        have hk1 : (k : Int) < (n : Int) := by omega
        have hz := hB.size
        obtain ⟨hb1, hb2⟩ := hSm.out F (List.mem_of_getElem? hFk)
        have hm1 := hFW.1.1
        have hm2 := hFW.2.1
        have cF := Lib.hid (fun wx hx => FactorOk_any B1 B2 m1 e1 m2 e2 F wx hx (by omega) (by omega))
        have cN := Lib.hid (fun wx hx => numbersOk_any B2 m2 e2 F.ns 9 wx hx (by omega))
        have hnx := Lib.hid (facs_take (f := facOk 9) hFk)
        have hal : Below wr.heap.size wr (wr.alloc (.cells #[.slice B1 m1 e1, .slice B2 m2 e2] 56)) := (Below.refl _ _).alloc (Nat.le_refl _) _
        have hbx := Lib.hid (Has.new wr 56 #[.slice B1 m1 e1, .slice B2 m2 e2])
        have hF0 := Lib.hid (show FacW _ _ B1 m1 B2 m2 F from ((hFW.more hz).keep_ hal).more hal.size)
        have hB0 := Lib.hid (hB.alloc hz (.cells #[.slice B1 m1 e1, .slice B2 m2 e2] 56))
        have hni := Lib.hid (fac_nine F)
        have hFkh := Lib.hid hFk
        clear hFW hal hFk hB
        go_wp2_with fail
        clear cl1 cl2
        generalize wr.alloc (.cells #[.slice B1 m1 e1, .slice B2 m2 e2] 56) = W0 at hbx hF0 hB0 ⊢
        cases hf : facOk 1000000000 F
        · have hR := Lib.hid (show listOk Fs = false by rw [hR0.out]; exact facs_no hFkh.out (by rw [← hni.out, hf]; rfl))
          refine (cF.out _ hF0.out).mono ?_
          rw [hf]
          rintro e w2 ⟨rfl, hb2⟩
          have hB2 := hB0.out.trans (hb2.mono hB0.out.size)
          clear hf hb2
          go_wp2_with fail
          go_ret
          exact ⟨ret_bool hR.out, hB2⟩
        · have hni2 := hni.out
          rw [hf, Bool.true_and] at hni2
          have hni3 := Lib.hid hni2
          refine (cF.out _ hF0.out).mono ?_
          rw [hf]
          rintro e w2 ⟨rfl, hb2⟩
          have hB2 := Lib.hid (hB0.out.trans (hb2.mono hB0.out.size))
          have hF2 := Lib.hid (hF0.out.below hb2)
          have cx := (hbx.out.kept hb2).cell
          clear hf hb2 hni2
          go_wp2_with fail
          cases hq : numsOk 9 F.ns
          · have hR := Lib.hid (show listOk Fs = false by rw [hR0.out]; exact facs_no hFkh.out (by rw [← hni3.out, hq]))
            refine (cN.out _ hF2.out.2).mono ?_
            rw [hq]
            rintro e w3 ⟨rfl, hb3⟩
            have hB3 := hB2.out.trans (hb3.mono hB2.out.size)
            clear hq hb3 cx
            go_wp2_with fail
            go_ret
            exact ⟨ret_bool hR.out, hB3⟩
          · have hR := Lib.hid (show (Fs.take (k + 1)).all (facOk 9) = true by rw [hnx.out, hOk.out, ← hni3.out, hq]; rfl)
            refine (cN.out _ hF2.out.2).mono ?_
            rw [hq]
            rintro e w3 ⟨rfl, hb3⟩
            have hB3 := Lib.hid (hB2.out.trans (hb3.mono hB2.out.size))
            clear hq hb3 cx
            go_wp2_with fail
            go_roundg (n - (k + 1))
            case measure => omega
            case rel => exact ⟨k + 1, by omega, rfl, by go_num, hR.out, hB3.out⟩
      · obtain rfl : k = n := by omega
        have hR := Lib.hid (show listOk Fs = true by rw [hR0.out]; have h1 := hOk.out; rwa [List.take_of_length_le (by omega)] at h1)
        go_wp2_with fail
        go_ret
        exact ⟨ret_bool hR.out, hBh.out⟩
  · have hn8' : (n : Int) > 8 := by omega
    have hR := Lib.hid (show listOk Fs = false by unfold listOk; rw [decide_eq_false (by omega), Bool.false_and])
    go_enter Try.func108, Try.ntmps108
    go_wp2_with fail
    go_ret
    exact ⟨ret_bool hR.out, Below.refl _ _⟩
end Go.Proofs.Ytghkpmafocacoaa

namespace Go.Proofs.Ytghkpmafocacoaa
set_option maxRecDepth 100000
set_option linter.unusedVariables false
open Go.RowKit
/-- The rows of a list of factors. -/
def rowsF (Fs : List Fac) : List (List Int) := Fs.flatMap fun F => [F.vs, F.ns]
theorem rowsF_cons (F : Fac) (Fs : List Fac) : rowsF (F :: Fs) = F.vs :: F.ns :: rowsF Fs := rfl
theorem rowsF_len : ∀ Fs : List Fac, (rowsF Fs).length = Fs.length * 2
  | [] => rfl
  | F :: r => by
    rw [rowsF_cons, List.length_cons, List.length_cons, List.length_cons, rowsF_len r]
    omega
theorem rowsF_get : ∀ {Fs : List Fac} {k : Nat} {F : Fac}, Fs[k]? = some F → (rowsF Fs)[k * 2]? = some F.vs ∧ (rowsF Fs)[k * 2 + 1]? = some F.ns
  | [], k, F, h => by simp at h
  | H :: r, 0, F, h => by
    have e : H = F := by simpa using h
    subst e
    exact ⟨rfl, rfl⟩
  | H :: r, k + 1, F, h => by
    have ih := rowsF_get (Fs := r) (k := k) (F := F) (by simpa using h)
    have e1 : (k + 1) * 2 = k * 2 + 1 + 1 := by omega
    rw [rowsF_cons, e1, List.getElem?_cons_succ, List.getElem?_cons_succ, List.getElem?_cons_succ, List.getElem?_cons_succ]
    exact ih
end Go.Proofs.Ytghkpmafocacoaa
namespace Go.Proofs.Ytghkpmafocacoaa
set_option maxRecDepth 100000
set_option linter.unusedVariables false
open Go.ChangeShapes Go.WideShapes Go.RowKit Go.Deep
section
variable {H : Type} {enc : TypeId × Value → H} {w : World} {base : Nat}
end
end Go.Proofs.Ytghkpmafocacoaa

namespace Go.Proofs.Ytghkpmafocacoaa
set_option maxRecDepth 100000
set_option linter.unusedVariables false
open Go.RowKit
/-- A list of factors that a call has made: the outer cells are vs. -/
def RowsF (w : World) (base : Nat) (v : Value) (Fs : List Fac) (vs : List Value) : Prop :=
  w.ownsRow base 56 2 v Fs.length vs ∧ ∀ (i : Nat) (x : Value), vs[i]? = some x → ∃ ds, (rowsF Fs)[i]? = some ds ∧ IOwn w base x ds
theorem fac_ne_int : (3 : TypeId) ≠ 56 := by decide
theorem RowsF.nil (w : World) (base : Nat) : RowsF w base (.slice none 0 0) [] [] := ⟨World.ownsRow_nil w base _ _, fun i x h => by simp at h⟩
theorem RowsF.length {w : World} {base : Nat} {v : Value} {Fs : List Fac} {vs : List Value} (h : RowsF w base v Fs vs) : vs.length = Fs.length * 2 := h.1.1
theorem RowsF.le {w : World} {base base' : Nat} {v : Value} {Fs : List Fac} {vs : List Value} (h : RowsF w base v Fs vs) (hb : base' ≤ base) : RowsF w base' v Fs vs := ⟨owns_le h.1 hb, fun i x hx => by
  obtain ⟨ds, h1, h2⟩ := h.2 i x hx
  exact ⟨ds, h1, owns_le h2 hb⟩⟩
theorem RowsF.but {w w' : World} {base : Nat} {v : Value} {Fs : List Fac} {vs : List Value} {S : Nat → Prop} (h : RowsF w base v Fs vs) (hk : KeptBut w w' S) (hn : ∀ k, v.ownBlock = some k → ¬ S k) (hi : ∀ k cur, Has w k 3 cur → base ≤ k → (∃ x ∈ vs, x.ownBlock = some k) → ¬ S k) : RowsF w' base v Fs vs := by
  refine ⟨owns_but h.1 hk hn, fun i x hx => ?_⟩
  obtain ⟨ds, hd, ho⟩ := h.2 i x hx
  refine ⟨ds, hd, ho.but hk fun k hkb => ?_⟩
  obtain ⟨cur, hc⟩ := owns_has ho hkb
  exact hi k cur hc (World.ownsRow.lt ho k hkb).1 ⟨x, List.mem_of_getElem? hx, hkb⟩
theorem RowsF.below {w w' : World} {base : Nat} {v : Value} {Fs : List Fac} {vs : List Value} (h : RowsF w base v Fs vs) (hb : Below w.heap.size w w') : RowsF w' base v Fs vs :=
  h.but (KeptBut.of_below hb (fun _ => False)) (fun _ _ e => e) (fun _ _ _ _ _ e => e)
theorem RowsF.form {w : World} {base : Nat} {v : Value} {Fs : List Fac} {vs : List Value} (h : RowsF w base v Fs vs) : ∃ A c, v = .slice A Fs.length c ∧ Fs.length ≤ c ∧ c ≤ maxLen := by
  rcases h.1.2 with ⟨hv, hn⟩ | ⟨g, cap, cur, hv, _, _, h1, h2, _⟩
  · exact ⟨none, 0, by rw [hv, hn], by omega, by simp [maxLen]⟩
  · exact ⟨_, cap, hv, h1, h2⟩
theorem cell_add {w : World} {g k : Nat} : w.cell? ((⟨g, 0, none⟩ : Addr).add k) = w.cell? ⟨g, k, none⟩ := by
  congr 1
  unfold Addr.add
  split
  · (rename_i h0; simp at h0 ⊢; try omega)
  · (simp; try omega)
theorem RowsF.at_ {w : World} {base : Nat} {A : Option Addr} {n c k : Nat} {Fs : List Fac} {vs : List Value} (h : RowsF w base (.slice A n c) Fs vs) (hn : Fs.length = n) (hk : k < n) :
    ∃ (g : Nat) (F : Fac) (A1 : Option Addr) (c1 : Nat) (A2 : Option Addr) (c2 : Nat), A = some ⟨g, 0, none⟩ ∧ Fs[k]? = some F ∧ vs[k * 2]? = some (.slice A1 F.vs.length c1) ∧ vs[k * 2 + 1]? = some (.slice A2 F.ns.length c2) ∧ w.cell? ⟨g, k * 2, none⟩ = some (.slice A1 F.vs.length c1) ∧ w.cell? ⟨g, k * 2 + 1, none⟩ = some (.slice A2 F.ns.length c2) ∧ IOwn w base (.slice A1 F.vs.length c1) F.vs ∧ IOwn w base (.slice A2 F.ns.length c2) F.ns ∧ g < w.heap.size := by
  have hvl := h.length
  obtain ⟨F, hF⟩ : ∃ F, Fs[k]? = some F := ⟨_, List.getElem?_eq_getElem (by omega)⟩
  obtain ⟨r1, r2⟩ := rowsF_get hF
  obtain ⟨x, hx⟩ : ∃ x, vs[k * 2]? = some x := ⟨_, List.getElem?_eq_getElem (by omega)⟩
  obtain ⟨y, hy⟩ : ∃ y, vs[k * 2 + 1]? = some y := ⟨_, List.getElem?_eq_getElem (by omega)⟩
  obtain ⟨ds, hds, hxo⟩ := h.2 _ x hx
  obtain ⟨es, hes, hyo⟩ := h.2 _ y hy
  obtain rfl : F.vs = ds := Option.some.inj (r1.symm.trans hds)
  obtain rfl : F.ns = es := Option.some.inj (r2.symm.trans hes)
  obtain ⟨A1, c1, rfl, _, _⟩ := IOwn.form hxo
  obtain ⟨A2, c2, rfl, _, _⟩ := IOwn.form hyo
  rcases h.1.2 with ⟨hv, hn0⟩ | ⟨g, cap, cur, hv, _⟩
  · omega
  · injection hv with e1 _ _
    subst e1
    refine ⟨g, F, A1, c1, A2, c2, rfl, hF, hx, hy, ?_, ?_, hxo, hyo, (World.ownsRow.lt h.1 g rfl).2⟩
    · rw [← World.ownsRow.cells h.1 (g := g) rfl _ _ hx, cell_add]
    · rw [← World.ownsRow.cells h.1 (g := g) rfl _ _ hy, cell_add]
theorem RowsF.flst {w : World} {base : Nat} {A : Option Addr} {n c : Nat} {Fs : List Fac} {vs : List Value} (h : RowsF w base (.slice A n c) Fs vs) (hn : Fs.length = n) : FLst w w.heap.size A n Fs := by
  refine ⟨hn, fun h0 => ?_⟩
  obtain ⟨g, _, _, _, _, _, e, _, _, _, _, _, _, _, hg⟩ := h.at_ hn h0
  refine ⟨g, 0, e, hg, fun k F hF => ?_⟩
  have hk : k < n := by have := (List.getElem?_eq_some_iff.1 hF).1; omega
  obtain ⟨g', F', A1, c1, A2, c2, e', hF', _, _, h1, h2, h3, h4, _⟩ := h.at_ hn hk
  obtain rfl : F' = F := Option.some.inj (hF'.symm.trans hF)
  obtain rfl : g' = g := by rw [e] at e'; injection e' with e'; injection e' with e' _ _; exact e'.symm
  rw [Nat.zero_add]
  exact ⟨A1, _, c1, A2, _, c2, h1, h2, h3.lst, h4.lst⟩
end Go.Proofs.Ytghkpmafocacoaa

namespace Go.Proofs.Ytghkpmafocacoaa
set_option maxRecDepth 100000
set_option linter.unusedVariables false
open Go.RowKit
/-- Factors, and where they lie. -/
def RsFB (lo hi : Nat) (v : Value) (Fs : List Fac) (vs : List Value) (w : World) : Prop := RowsF w lo v Fs vs ∧ (∀ k, v.ownBlock = some k → k < hi) ∧ ∀ x ∈ vs, ∀ k, x.ownBlock = some k → lo ≤ k ∧ k < hi
theorem RsFB.pl {w : World} {base : Nat} {v : Value} {Fs : List Fac} {vs : List Value} (h : RowsF w base v Fs vs) : Pl (RsFB base w.heap.size v Fs vs) base w.heap.size w := by
  refine ⟨⟨h, fun k hk => (World.ownsRow.lt h.1 k hk).2, fun x hx k hk => ?_⟩, Nat.le_refl _, fun a b ha _ _ hab => ⟨⟨⟨ha.1.1.1, ?_⟩, fun i x hx => ?_⟩, ha.2⟩⟩
  · obtain ⟨i, hi, hie⟩ := List.getElem_of_mem hx
    obtain ⟨ds, _, ho⟩ := h.2 i x (by rw [List.getElem?_eq_getElem hi, hie])
    exact World.ownsRow.lt ho k hk
  · rcases ha.1.1.2 with h0 | ⟨g, cap, cur, hv, hg, hh, rest⟩
    · exact .inl h0
    · exact .inr ⟨g, cap, cur, hv, hg, (hab g hg (ha.2.1 g (by rw [hv]; rfl))).trans hh, rest⟩
  · obtain ⟨ds, hds, ho⟩ := ha.1.2 i x hx
    refine ⟨ds, hds, ho.1, ?_⟩
    rcases ho.2 with h0 | ⟨g, cap, cur, hv, hg, hh, rest⟩
    · exact .inl h0
    · exact .inr ⟨g, cap, cur, hv, hg, (hab g hg (ha.2.2 x (List.mem_of_getElem? hx) g (by rw [hv]; rfl)).2).trans hh, rest⟩
theorem info_fac : (Try.prog.info? 56).map (fun i => (i.zero, i.size, i.bytes)) = some (some (.agg #[.slice none 0 0, .slice none 0 0]), 2, 48) := by kernel_rfl
end Go.Proofs.Ytghkpmafocacoaa

namespace Go.Proofs.Ytghkpmafocacoaa
set_option maxRecDepth 100000
set_option linter.unusedVariables false
open Go.RowKit
/-- The rows' memory is numbered through. -/
def MkdF (w : World) (base : Nat) (A : Option Addr) (n c : Nat) (Fs : List Fac) (vs : List Value) (m : Int) : Prop :=
  w.ownsRow base 56 2 (.slice A n c) n vs ∧ ∀ (i : Nat) (ds : List Int), (rowsF Fs)[i]? = some ds → ∃ Ax cx, vs[i]? = some (.slice Ax ds.length cx) ∧ Ils w w.heap.size Ax ds.length (nums (m + offs (rowsF Fs) i) ds.length)
def MkFB (lo hi : Nat) (A : Option Addr) (n c : Nat) (Fs : List Fac) (vs : List Value) (m : Int) (w : World) : Prop := MkdF w lo A n c Fs vs m ∧ (∀ k, (Value.slice A n c).ownBlock = some k → k < hi) ∧ ∀ x ∈ vs, ∀ k, x.ownBlock = some k → lo ≤ k ∧ k < hi
theorem MkFB.pl {w : World} {lo hi n c : Nat} {A : Option Addr} {Fs : List Fac} {vs : List Value} {m : Int} (h : MkdF w lo A n c Fs vs m) (h1 : ∀ k, (Value.slice A n c).ownBlock = some k → k < hi) (h2 : ∀ x ∈ vs, ∀ k, x.ownBlock = some k → lo ≤ k ∧ k < hi) (hh : hi ≤ w.heap.size) : Pl (MkFB lo hi A n c Fs vs m) lo hi w := by
  refine ⟨⟨h, h1, h2⟩, hh, fun a b ha hs hab hk => ⟨⟨⟨ha.1.1.1, ?_⟩, fun i ds hds => ?_⟩, ha.2⟩⟩
  · rcases ha.1.1.2 with h0 | ⟨g, cap, cur, hv, hg, hh, rest⟩
    · exact .inl h0
    · exact .inr ⟨g, cap, cur, hv, hg, (hk g hg (ha.2.1 g (by rw [hv]; rfl))).trans hh, rest⟩
  · obtain ⟨Ax, cx, hx, hi⟩ := ha.1.2 i ds hds
    refine ⟨Ax, cx, hx, hi.1, fun hn => ?_⟩
    obtain ⟨g, off, e, hg, hc⟩ := hi.2 hn
    have hg2 := ha.2.2 _ (List.mem_of_getElem? hx) g (by rw [e]; rfl)
    refine ⟨g, off, e, Nat.lt_of_lt_of_le hg hab, fun k d hd => (World.cell?_of_block ?_).trans (hc k d hd)⟩
    exact hk g hg2.1 hg2.2
theorem MkdF.cell {w : World} {base : Nat} {A : Option Addr} {n c k : Nat} {Fs : List Fac} {vs : List Value} {m : Int} (h : MkdF w base A n c Fs vs m) (hL : Fs.length = n) (hk : k < n) :
    ∃ (g : Nat) (F : Fac) (A1 : Option Addr) (c1 : Nat) (A2 : Option Addr) (c2 : Nat), A = some ⟨g, 0, none⟩ ∧ Fs[k]? = some F ∧ w.cell? ⟨g, k * 2, none⟩ = some (.slice A1 F.vs.length c1) ∧ w.cell? ⟨g, k * 2 + 1, none⟩ = some (.slice A2 F.ns.length c2) ∧ Ils w w.heap.size A1 F.vs.length (nums (m + offs (rowsF Fs) (k * 2)) F.vs.length) ∧ Ils w w.heap.size A2 F.ns.length (nums (m + offs (rowsF Fs) (k * 2 + 1)) F.ns.length) := by
  obtain ⟨F, hF⟩ : ∃ F, Fs[k]? = some F := ⟨_, List.getElem?_eq_getElem (by omega)⟩
  obtain ⟨r1, r2⟩ := rowsF_get hF
  obtain ⟨A1, c1, hx, hi⟩ := h.2 _ _ r1
  obtain ⟨A2, c2, hy, hj⟩ := h.2 _ _ r2
  rcases h.1.2 with ⟨hv, hn0⟩ | ⟨g, cap, cur, hv, _⟩
  · omega
  · injection hv with e1 _ _
    subst e1
    refine ⟨g, F, A1, c1, A2, c2, rfl, hF, ?_, ?_, hi, hj⟩
    · rw [← World.ownsRow.cells h.1 (g := g) rfl _ _ hx, cell_add]
    · rw [← World.ownsRow.cells h.1 (g := g) rfl _ _ hy, cell_add]
end Go.Proofs.Ytghkpmafocacoaa
namespace Go.Proofs.Ytghkpmafocacoaa
set_option maxRecDepth 100000
set_option linter.unusedVariables false
open Go.RowKit
end Go.Proofs.Ytghkpmafocacoaa
