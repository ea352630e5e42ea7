/- Parts of the proof: Gg, K3, K6, K9, Dr. -/
import Derived.Test.YtaipdkfbkcknkaaZAG
import Derived.Deep.MidRow
import Derived.Deep.WholeRow
import Derived.Test.YtaipdkfbkcknkaaZAC
import Derived.Test.YtaipdkfbkcknkaaZAE
import Derived.BigQuiet
import Derived.Test.YtaipdkfbkcknkaaZAK
import Derived.Test.YtaipdkfbkcknkaaZAA
namespace Go.Proofs.Ytaipdkfbkcknkaa
set_option maxRecDepth 100000
set_option linter.unusedVariables false
open Go.RowKit
theorem st_all : ∀ i : Fin 81, stOf (over 15) (i.val : Int) = (i.val : Int) := by decide +kernel
theorem list_parts {Fs : List Fac} (h : listOk Fs = true) : Fs.length ≤ 8 ∧ ∀ F ∈ Fs, facOk 9 F = true := by
  unfold listOk at h
  rw [Bool.and_eq_true] at h
  exact ⟨of_decide_eq_true h.1, fun F hF => List.all_eq_true.1 h.2 F hF⟩
theorem nine_pow {k : Nat} (h : k ≤ 8) : (9 : Int) ^ k ≤ 1000000000000000000 := by
  obtain rfl | rfl | rfl | rfl | rfl | rfl | rfl | rfl | rfl : k = 0 ∨ k = 1 ∨ k = 2 ∨ k = 3 ∨ k = 4 ∨ k = 5 ∨ k = 6 ∨ k = 7 ∨ k = 8 := by omega
  all_goals decide
theorem fac15 (Fs : List Fac) : (facBy_ 15 (prodAt Fs)).ns = (List.range 81).map fun (i : Nat) => prodAt Fs (i : Int) := by
  have e : 3 ^ (over 15).length = 81 := by decide
  unfold facBy_
  dsimp only
  rw [e]
  refine List.map_congr_left fun i hi => ?_
  rw [st_all ⟨i, List.mem_range.1 hi⟩]
theorem field_two (x y : Value) (w : World) : (Instr.field 36 (.agg #[x, y]) 1).run Try.prog w = .ok y w := by kernel_rfl
theorem ListOfFactors_any (A : Option Addr) (n c : Nat) (Fs : List Fac) (w : World) (h : FLst w w.heap.size A n Fs) (hn : n ≤ maxLen) (hsm : smallF Fs) :
    Calls Try.prog 41 #[.slice A n c] w (Lbd w (lofTo Fs) (listOk Fs)) := by
  have hI := Lib.hid h
  have hl := h.1
  have cK := Lib.hid (factorsOk_any A n c Fs w h hn hsm)
  have hnh := Lib.hid hn
  clear h hn hsm
  cases hk : listOk Fs
  · have hT : lofTo Fs = [] := by unfold lofTo; rw [hk]; rfl
    rw [hT]
    rw [hk] at cK
    clear hk hT
    go_enter Try.func41, Try.ntmps41
    go_wp2_with fail
    refine cK.out.mono ?_
    rintro e w1 ⟨rfl, hb⟩
    go_wp2_with fail
    go_ret2
    exact ⟨_, rfl, IOwn.nil _ _, hb⟩
  · have hT : lofTo Fs = (facBy_ 15 (prodAt Fs)).ns := by unfold lofTo; rw [hk, if_pos rfl, fac15]
    rw [hT]
    rw [hk] at cK
    obtain ⟨h8, hf⟩ := list_parts hk
    have cT := Lib.hid (fun wx hx => timesOver_any A n c Fs 15 9 wx hx hnh.out (by decide) (by decide) hf (fun k hk => nine_pow (by omega)))
    clear hk hT hf
    go_enter Try.func41, Try.ntmps41
    go_wp2_with fail
    refine cK.out.mono ?_
    rintro e w1 ⟨rfl, hb⟩
    have hI1 := Lib.hid ((hI.out.below hb).more hb.size)
    have hbh := Lib.hid hb
    clear hb
    go_wp2_with fail
    refine (cT.out _ hI1.out).mono ?_
    rintro e w2 ⟨v1, v2, rfl, hV, hb2⟩
    obtain ⟨D1, e1, rfl, _, _⟩ := hV.1.form
    obtain ⟨D2, e2, rfl, _, _⟩ := hV.2.1.form
    have hB2 := Lib.hid (hbh.out.trans (hb2.mono hbh.out.size))
    have hO := Lib.hid (show IOwn w2 w.heap.size (.slice D2 (facBy_ 15 (prodAt Fs)).ns.length e2) (facBy_ 15 (prodAt Fs)).ns from owns_le hV.2.1 hbh.out.size)
    clear hb2
    have hfi : ∀ wx : World, (Instr.field 36 (.agg #[.slice D1 (facBy_ 15 (prodAt Fs)).vs.length e1, .slice D2 (facBy_ 15 (prodAt Fs)).ns.length e2]) 1).run Try.prog wx = .ok (.slice D2 (facBy_ 15 (prodAt Fs)).ns.length e2) wx := fun wx => field_two _ _ wx
    go_wp2_with fail
    go_ret2
    exact ⟨_, rfl, hO.out, hB2.out⟩
end Go.Proofs.Ytaipdkfbkcknkaa

namespace Go.Proofs.Ytaipdkfbkcknkaa
set_option maxRecDepth 100000
set_option linter.unusedVariables false
open Go.RowKit
/-- The cells of widths. -/
def ArrN (cs : Array Value) (ls : List Nat) : Prop := cs.size = 16 ∧ ∀ q : Nat, q < 16 → cs[q]? = some (.int .i64 ((ls.getD q 0 : Nat) : Int))
theorem ArrN.one {cs : Array Value} {ls : List Nat} (h : ArrN cs ls) : cs.all (·.oneCell') = true := by
  refine Array.all_eq_true_iff_forall_mem.2 fun u hu => ?_
  obtain ⟨i, hi, rfl⟩ := Array.mem_iff_getElem.1 hu
  have h2 := h.2 i (by rw [← h.1]; exact hi)
  rw [Array.getElem?_eq_getElem hi] at h2
  rw [Option.some.inj h2]; rfl
theorem ArrN.put {cs : Array Value} {ls : List Nat} (h : ArrN cs ls) (hl : ls.length = 16) {q : Nat} (hq : q < 16) (x : Nat) : ArrN (cs.setIfInBounds q (.int .i64 (x : Int))) (ls.set q x) := by
  refine ⟨by simpa using h.1, fun j hj => ?_⟩
  by_cases hjq : q = j
  · subst hjq
    rw [Array.getElem?_setIfInBounds, if_pos rfl, if_pos (by rw [h.1]; exact hq), List.getD_eq_getElem?_getD, List.getElem?_set_self (by omega)]
    rfl
  · rw [Array.getElem?_setIfInBounds, if_neg hjq, h.2 j hj, List.getD_eq_getElem?_getD, List.getD_eq_getElem?_getD, List.getElem?_set_ne hjq]
theorem ArrN.zero : ArrN (List.toArray (List.replicate 16 (.int .i64 0))) (zN 16) := by
  refine ⟨by simp, fun q hq => ?_⟩
  have : (zN 16).getD q 0 = 0 := by
    unfold zN
    rw [List.getD_eq_getElem?_getD, List.getElem?_replicate]
    split <;> rfl
  rw [this, List.getElem?_toArray, List.getElem?_replicate, if_pos hq]
  rfl
/-- Cells written in the midst of a block. -/
theorem has_setCells_ {g : Nat} {t : TypeId} : ∀ (vs : List Value) (o : Nat) (w : World) (cs : Array Value), Has w g t cs → o + vs.length ≤ cs.size →
    ∃ cs', Has (w.setCells g o vs) g t cs' ∧ cs'.size = cs.size ∧ (∀ j v, vs[j]? = some v → cs'[o + j]? = some v) ∧ ∀ i, (i < o ∨ o + vs.length ≤ i) → cs'[i]? = cs[i]?
  | [], o, w, cs, h, hl => ⟨cs, h, rfl, fun j v hv => by simp at hv, fun i _ => rfl⟩
  | u :: vs, o, w, cs, h, hl => by
    rw [List.length_cons] at hl
    obtain ⟨cs', h1, h2, h3, h4⟩ := has_setCells_ vs (o + 1) (w.setCell ⟨g, o, none⟩ u) (cs.setIfInBounds o u) (h.put o u) (by simp; omega)
    refine ⟨cs', h1, by rw [h2]; simp, fun j v hv => ?_, fun i hi => ?_⟩
    · cases j with
      | zero =>
        have e : u = v := by simpa using hv
        subst e
        rw [Nat.add_zero, h4 o (by omega), Array.getElem?_setIfInBounds, if_pos rfl, if_pos (by omega)]
      | succ j =>
        have := h3 j v (by simpa using hv)
        rwa [show o + (j + 1) = o + 1 + j by omega]
    · rw [List.length_cons] at hi
      rw [h4 i (by omega), Array.getElem?_setIfInBounds, if_neg (by omega)]
theorem below_setCells_ {B b : Nat} {w0 : World} (hb : B ≤ b) : ∀ (vs : List Value) (o : Nat) (w : World), Below B w0 w → Below B w0 (w.setCells b o vs)
  | [], o, w, h => h
  | u :: vs, o, w, h => below_setCells_ hb vs (o + 1) _ (h.setCell (p := ⟨b, o, none⟩) hb u)
theorem has_there_ {w : World} {g : Nat} {t : TypeId} {cs : Array Value} (h : Has w g t cs) {o n : Nat} (hn : o + n ≤ cs.size) : w.there g o n := fun j hj => by
  refine ⟨?_, h.frozen _⟩
  rw [h.cell, Array.getElem?_eq_getElem (by omega)]; rfl
theorem has_range_ {w : World} {g : Nat} {t : TypeId} {cs : Array Value} (h : Has w g t cs) {o : Nat} {vs : List Value} (hv : ∀ j v, vs[j]? = some v → cs[o + j]? = some v) : w.rangeAt g o vs := fun j v hj => (h.cell _).trans (hv j v hj)
theorem results_cell_ {fn : Func} {p : Tmp} {ty : TypeId} (h : fn.results = #[.cell p ty]) (tmps : Array Value) (P : Program) (w : World) :
    (results fn tmps).run P w = ((asAddr (tmps.getD p undef)).run P w).andThen fun a w₁ => (loadVar ty a).run P w₁ := by
  simp only [results, h]
  simp [Sem.run_bind, Result.andThen]
end Go.Proofs.Ytaipdkfbkcknkaa

namespace Go.Proofs.Ytaipdkfbkcknkaa
set_option maxRecDepth 100000
set_option linter.unusedVariables false
open Go.RowKit
theorem list_fine {Fs : List Fac} (h : listOk Fs = true) : Fs.length ≤ 8 ∧ (∀ F ∈ Fs, facOk 9 F = true) ∧ Fine Fs := by
  obtain ⟨h1, h2⟩ := list_parts h
  exact ⟨h1, h2, fun F hF => mB_ok (h2 F hF)⟩
end Go.Proofs.Ytaipdkfbkcknkaa

namespace Go.Proofs.Ytaipdkfbkcknkaa
set_option maxRecDepth 100000
set_option linter.unusedVariables false
open Go.RowKit
def FLst0 (w : World) (B : Nat) (A : Option Addr) (n : Nat) (Fs : List Fac) : Prop := FLst w B A n Fs ∧ Nilf w A n
theorem RowsF.flst0 {w : World} {base : Nat} {A : Option Addr} {n c : Nat} {Fs : List Fac} {vs : List Value} (h : RowsF w base (.slice A n c) Fs vs) (hn : Fs.length = n) : FLst0 w w.heap.size A n Fs := ⟨h.flst hn, h.nilf hn⟩
theorem FLst0.below {w w' : World} {B n : Nat} {A : Option Addr} {Fs : List Fac} (h : FLst0 w B A n Fs) (hb : Below B w w') : FLst0 w' B A n Fs := ⟨h.1.below hb, h.2.below h.1 hb⟩
theorem FLst0.more {w : World} {B B' n : Nat} {A : Option Addr} {Fs : List Fac} (h : FLst0 w B A n Fs) (hb : B ≤ B') : FLst0 w B' A n Fs := ⟨h.1.more hb, h.2⟩
theorem pow_bd {Fs : List Fac} (h8 : Fs.length ≤ 8) (hf : ∀ F ∈ Fs, facOk 9 F = true) {k : Nat} (hk : k ≤ 4) : (3 : Int) ^ k * pb Fs ≤ 10000000000 := by
  have h1 := pb_nine hf
  have g9 : ∀ k : Fin 9, (9 : Int) ^ k.val ≤ 9 ^ 8 := by decide +kernel
  have g3 : ∀ k : Fin 5, (3 : Int) ^ k.val ≤ 3 ^ 4 := by decide +kernel
  have h2 : (9 : Int) ^ Fs.length ≤ 9 ^ 8 := g9 ⟨Fs.length, by omega⟩
  have h3 : (3 : Int) ^ k ≤ 3 ^ 4 := g3 ⟨k, by omega⟩
  have h4 := Int.mul_le_mul h3 (Int.le_trans h1 h2) (by have := pb_pos Fs; omega) (by decide)
  have h5 : (3 : Int) ^ 4 * 9 ^ 8 ≤ 10000000000 := by decide
  omega
end Go.Proofs.Ytaipdkfbkcknkaa

namespace Go.Proofs.Ytaipdkfbkcknkaa
set_option maxRecDepth 100000
open Go.RowKit
theorem Byt.more {w : World} {B B' : Nat} {A : Option Addr} {n : Nat} (h : Byt w B A n) (hB : B ≤ B') : Byt w B' A n := fun hn => by
  obtain ⟨g, off, e, hg, hc⟩ := h hn
  exact ⟨g, off, e, by omega, hc⟩
end Go.Proofs.Ytaipdkfbkcknkaa
namespace Go.Proofs.Ytaipdkfbkcknkaa
set_option maxRecDepth 100000
open Go.RowKit
theorem Chg.grown {a b c : World} {R : Nat} {row : Option Nat} (h : Chg a b R) (hg : b.grownBy c row) (hr : ∀ k, row = some k → a.heap.size ≤ k) : Chg a c R :=
  ⟨hg.os.trans h.os, hg.tape.trans h.tape, hg.output.trans h.output, Nat.le_trans h.size hg.size,
    fun i hi hne => (hg.block i (Nat.lt_of_lt_of_le hi h.size) (fun e => by have := hr i e.symm; omega)).trans (h.block i hi hne)⟩
theorem Rdr.grown {w w' : World} {B R : Nat} {A : Option Addr} {n c p : Nat} {row : Option Nat} (h : Rdr w B R A n c p) (hg : w.grownBy w' row) (hr : ∀ k, row = some k → B ≤ k ∧ k ≠ R) (hB : B ≤ w.heap.size) : Rdr w' B R A n c p :=
  ⟨(hg.block R h.lt (fun e => (hr R e.symm).2 rfl)).trans h.1, h.2.1, h.2.2.keep ((Below.refl B w).grown hg hB (fun k hk => (hr k hk).1))⟩
theorem Own.chg {w w' : World} {base R : Nat} {v : Value} {os : List St} (h : Own w base v os) (hc : Chg w w' R) (hR : R < base) : Own w' base v os := by
  refine World.ownsRow.kept h hc ?_
  cases hv : v.ownBlock with
  | none => exact .inl rfl
  | some k =>
    refine .inr fun e => ?_
    have h1 := (World.ownsRow.lt h k hv).1
    injection e with e
    omega
def St.put (s : St) : Nat → Int → St
  | 0, x => { s with k := x }
  | 1, x => { s with a := x }
  | 2, x => { s with b := x }
  | 3, x => { s with c := x }
  | 4, x => { s with u := x }
  | 5, x => { s with v := x }
  | _, x => { s with x := x }
end Go.Proofs.Ytaipdkfbkcknkaa
namespace Go.Proofs.Ytaipdkfbkcknkaa
set_option maxRecDepth 100000
open Go.RowKit
end Go.Proofs.Ytaipdkfbkcknkaa
