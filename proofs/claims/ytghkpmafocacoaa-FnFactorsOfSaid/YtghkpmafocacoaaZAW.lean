/- Parts of the proof: K0, K4, K8, Gg, K3, K9, Dr, Gp, Gq, KN, KP, KD, KE, KF, KG, KQ, Ba. -/
import Derived.Test.YtghkpmafocacoaaZAM
import Derived.Test.YtghkpmafocacoaaZAJ
import Derived.Laws.AppendOwnNone
import Derived.Test.YtghkpmafocacoaaZAU
import Derived.Test.YtghkpmafocacoaaZAR
import Derived.Test.YtghkpmafocacoaaZAT
import Derived.Deep.MidRow
import Derived.Deep.WholeRow
import Derived.BigQuiet
import Derived.Test.YtghkpmafocacoaaZAO
import Derived.Test.YtghkpmafocacoaaZAK
import Derived.Test.YtghkpmafocacoaaZAG
import Derived.Laws.CopyOwn
import Derived.Test.YtghkpmafocacoaaZAE
namespace Go.Proofs.Ytghkpmafocacoaa
set_option maxRecDepth 100000
set_option linter.unusedVariables false
/-- Graphs of the four variables: the pairs 01 02 03 12 13 23. -/
structure Gr where
  a : Bool
  b : Bool
  c : Bool
  d : Bool
  e : Bool
  f : Bool
def Gr.nb (g : Gr) : Nat → Nat
  | 0 => 1 + 2 * g.a.toNat + 4 * g.b.toNat + 8 * g.c.toNat
  | 1 => g.a.toNat + 2 + 4 * g.d.toNat + 8 * g.e.toNat
  | 2 => g.b.toNat + 2 * g.d.toNat + 4 + 8 * g.f.toNat
  | _ => g.c.toNat + 2 * g.e.toNat + 4 * g.f.toNat + 8
def grOf (N : Nat → Nat) : Gr := ⟨(N 0).testBit 1, (N 0).testBit 2, (N 0).testBit 3, (N 1).testBit 2, (N 1).testBit 3, (N 2).testBit 3⟩
/-- A graph without a variable. -/
def Gr.el (g : Gr) (v : Nat) : Gr := grOf fun u => if u = v then 2 ^ v else if (g.nb v).testBit u then (g.nb u ||| g.nb v) &&& (15 - 2 ^ v) else g.nb u
def cntN (L : Nat) : Nat := (L % 2 + L / 2 % 2) + (L / 4 % 2 + L / 8 % 2)
def Gr.w1 (g : Gr) (v : Nat) : Nat := cntN (g.nb v)
def Gr.stepJ (g : Gr) (T J : Nat) : Nat := (List.range 4).foldl (fun R u => if J.testBit u && T.testBit u then R ||| g.nb u else R) J
def Gr.cl (g : Gr) (T v : Nat) : Nat := g.stepJ T (g.stepJ T (g.stepJ T (2 ^ v)))
/-- How many variables the product has by which one is eliminated when others are gone. -/
def Gr.wP (g : Gr) (gone v : Nat) : Nat := cntN (g.cl (gone ||| 2 ^ v) v &&& (15 - gone))
def Gr.nxt (g : Gr) (least : List Nat) (gone : Nat) : Nat → Nat × Nat
  | 0 => (0, 5)
  | v + 1 => if gone.testBit v then g.nxt least gone v else if max (max (g.wP gone v) (least.getD (gone ||| 2 ^ v) 0)) (least.getD 0 0) < (g.nxt least gone v).2 then (v, max (max (g.wP gone v) (least.getD (gone ||| 2 ^ v) 0)) (least.getD 0 0)) else g.nxt least gone v
def zN (n : Nat) : List Nat := List.replicate n 0
def Gr.lst (g : Gr) : Nat → List Nat
  | 0 => zN 16
  | k + 1 => (g.lst k).set (14 - k) (g.nxt (g.lst k) (14 - k) 4).2
end Go.Proofs.Ytghkpmafocacoaa

namespace Go.Proofs.Ytghkpmafocacoaa
set_option maxRecDepth 100000
set_option linter.unusedVariables false
open Go.RowKit
/-- The greatest number of a factor, or 1. -/
def mB (F : Fac) : Int := F.ns.foldl max 1
def pb (Fs : List Fac) : Int := Fs.foldr (fun F k => mB F * k) 1
theorem facBy_ok (L : Fin 16) {g : Int → Int} {M : Int} (h : ∀ st, 0 ≤ st ∧ st ≤ 80 → 0 ≤ g st ∧ g st ≤ M) : facOk M (facBy_ (L.val : Int) g) = true := by
  have hL := over_ok L
  have h4 := pow_four hL.2.2
  unfold facOk numsOk
  rw [Bool.and_eq_true, Bool.and_eq_true]
  refine ⟨hL.1, List.all_eq_true.2 fun x hx => ?_, decide_eq_true (facBy_len _ _)⟩
  unfold facBy_ at hx
  obtain ⟨i, hi, rfl⟩ := List.mem_map.1 hx
  have hi' := List.mem_range.1 hi
  exact inB_iff.2 (h _ (st_idx L ⟨i, by omega⟩ hi').2)
end Go.Proofs.Ytghkpmafocacoaa

namespace Go.Proofs.Ytghkpmafocacoaa
set_option maxRecDepth 100000
set_option linter.unusedVariables false
set_option pp.deepTerms true
set_option pp.maxSteps 1000000
open Go.RowKit
/-- The slices of a list of factors that are nil have no room. -/
def Nilf (w : World) (A : Option Addr) (n : Nat) : Prop := ∀ g off, A = some ⟨g, off, none⟩ → ∀ j, j < n * 2 → ∀ (A1 : Option Addr) (n1 c1 : Nat), w.cell? ⟨g, off + j, none⟩ = some (.slice A1 n1 c1) → A1 = none → c1 = 0
theorem Nilf.below {w w' : World} {B n : Nat} {A : Option Addr} {Fs : List Fac} (h : Nilf w A n) (hF : FLst w B A n Fs) (hb : Below B w w') : Nilf w' A n := fun g off e j hj A1 n1 c1 hc => by
  obtain ⟨g', off', e', hg, _⟩ := hF.2 (by omega)
  have : g = g' := by rw [e] at e'; injection e' with e'; injection e' with e' _ _
  subst this
  exact h g off e j hj A1 n1 c1 ((hb.cell (p := ⟨g, off + j, none⟩) hg).symm.trans hc)
theorem FcV.store {w : World} {base g : Nat} {v1 v2 : Value} {F : Fac} {cs : Array Value} (h : FcV w base v1 v2 F) (hg : Has w g 56 cs) (i : Nat) (x : Value) : FcV (w.setCell ⟨g, i, none⟩ x) base v1 v2 F := by
  have hk := (KeptBut.refl w (fun i => i = g)).put (p := ⟨g, i, none⟩) (fun _ => rfl) x
  exact ⟨h.1.but hk (fun k hk e => iown_ne h.1 hg (by decide) k hk e), h.2.1.but hk (fun k hk e => iown_ne h.2.1 hg (by decide) k hk e), h.2.2⟩
end Go.Proofs.Ytghkpmafocacoaa

namespace Go.Proofs.Ytghkpmafocacoaa
set_option maxRecDepth 100000
set_option linter.unusedVariables false
open Go.RowKit
theorem st_all : ∀ i : Fin 81, stOf (over 15) (i.val : Int) = (i.val : Int) := by decide +kernel
theorem list_parts {Fs : List Fac} (h : listOk Fs = true) : Fs.length ≤ 8 ∧ ∀ F ∈ Fs, facOk 9 F = true := by
  unfold listOk at h
  rw [Bool.and_eq_true] at h
  exact ⟨of_decide_eq_true h.1, fun F hF => List.all_eq_true.1 h.2 F hF⟩
theorem nine_pow {k : Nat} (h : k ≤ 8) : (9 : Int) ^ k ≤ 1000000000000000000 := by
  obtain rfl | rfl | rfl | rfl | rfl | rfl | rfl | rfl | rfl : k = 0 ∨ k = 1 ∨ k = 2 ∨ k = 3 ∨ k = 4 ∨ k = 5 ∨ k = 6 ∨ k = 7 ∨ k = 8 := by omega
  all_goals decide
theorem fac15 (Fs : List Fac) : (facBy_ 15 (prodAt Fs)).ns = (List.range 81).map fun (i : Nat) => prodAt Fs (i : Int) := by
  have e : 3 ^ (over 15).length = 81 := by decide
  unfold facBy_
  dsimp only
  rw [e]
  refine List.map_congr_left fun i hi => ?_
  rw [st_all ⟨i, List.mem_range.1 hi⟩]
theorem field_two (x y : Value) (w : World) : (Instr.field 56 (.agg #[x, y]) 1).run Try.prog w = .ok y w := by kernel_rfl
theorem ListOfFactors_any (A : Option Addr) (n c : Nat) (Fs : List Fac) (w : World) (h : FLst w w.heap.size A n Fs) (hn : n ≤ maxLen) (hsm : smallF Fs) :
    Calls Try.prog 56 #[.slice A n c] w (Lbd w (lofTo Fs) (listOk Fs)) := by
  have hI := Lib.hid h
  have hl := h.1
  have cK := Lib.hid (factorsOk_any A n c Fs w h hn hsm)
  have hnh := Lib.hid hn
  clear h hn hsm
  cases hk : listOk Fs
  · have hT : lofTo Fs = [] := by unfold lofTo; rw [hk]; rfl
    rw [hT]
    rw [hk] at cK
    clear hk hT
    go_enter Try.func56, Try.ntmps56
    go_wp2_with fail
    refine cK.out.mono ?_
    rintro e w1 ⟨rfl, hb⟩
    go_wp2_with fail
    go_ret2
    exact ⟨_, rfl, IOwn.nil _ _, hb⟩
  · have hT : lofTo Fs = (facBy_ 15 (prodAt Fs)).ns := by unfold lofTo; rw [hk, if_pos rfl, fac15]
    rw [hT]
    rw [hk] at cK
    obtain ⟨h8, hf⟩ := list_parts hk
    have cT := Lib.hid (fun wx hx => timesOver_any A n c Fs 15 9 wx hx hnh.out (by decide) (by decide) hf (fun k hk => nine_pow (by omega)))
    clear hk hT hf
    go_enter Try.func56, Try.ntmps56
    go_wp2_with fail
    refine cK.out.mono ?_
    rintro e w1 ⟨rfl, hb⟩
    have hI1 := Lib.hid ((hI.out.below hb).more hb.size)
    have hbh := Lib.hid hb
    clear hb
    go_wp2_with fail
    refine (cT.out _ hI1.out).mono ?_
    rintro e w2 ⟨v1, v2, rfl, hV, hb2⟩
    obtain ⟨D1, e1, rfl, _, _⟩ := hV.1.form
    obtain ⟨D2, e2, rfl, _, _⟩ := hV.2.1.form
    have hB2 := Lib.hid (hbh.out.trans (hb2.mono hbh.out.size))
    have hO := Lib.hid (show IOwn w2 w.heap.size (.slice D2 (facBy_ 15 (prodAt Fs)).ns.length e2) (facBy_ 15 (prodAt Fs)).ns from owns_le hV.2.1 hbh.out.size)
    clear hb2
    have hfi : ∀ wx : World, (Instr.field 56 (.agg #[.slice D1 (facBy_ 15 (prodAt Fs)).vs.length e1, .slice D2 (facBy_ 15 (prodAt Fs)).ns.length e2]) 1).run Try.prog wx = .ok (.slice D2 (facBy_ 15 (prodAt Fs)).ns.length e2) wx := fun wx => field_two _ _ wx
    go_wp2_with fail
    go_ret2
    exact ⟨_, rfl, hO.out, hB2.out⟩
end Go.Proofs.Ytghkpmafocacoaa

namespace Go.Proofs.Ytghkpmafocacoaa
set_option maxRecDepth 100000
set_option linter.unusedVariables false
open Go.RowKit
/-- The cells of widths. -/
def ArrN (cs : Array Value) (ls : List Nat) : Prop := cs.size = 16 ∧ ∀ q : Nat, q < 16 → cs[q]? = some (.int .i64 ((ls.getD q 0 : Nat) : Int))
theorem ArrN.one {cs : Array Value} {ls : List Nat} (h : ArrN cs ls) : cs.all (·.oneCell') = true := by
  refine Array.all_eq_true_iff_forall_mem.2 fun u hu => ?_
  obtain ⟨i, hi, rfl⟩ := Array.mem_iff_getElem.1 hu
  have h2 := h.2 i (by rw [← h.1]; exact hi)
  rw [Array.getElem?_eq_getElem hi] at h2
  rw [Option.some.inj h2]; rfl
theorem ArrN.put {cs : Array Value} {ls : List Nat} (h : ArrN cs ls) (hl : ls.length = 16) {q : Nat} (hq : q < 16) (x : Nat) : ArrN (cs.setIfInBounds q (.int .i64 (x : Int))) (ls.set q x) := by
  refine ⟨by simpa using h.1, fun j hj => ?_⟩
  by_cases hjq : q = j
  · subst hjq
    rw [Array.getElem?_setIfInBounds, if_pos rfl, if_pos (by rw [h.1]; exact hq), List.getD_eq_getElem?_getD, List.getElem?_set_self (by omega)]
    rfl
  · rw [Array.getElem?_setIfInBounds, if_neg hjq, h.2 j hj, List.getD_eq_getElem?_getD, List.getD_eq_getElem?_getD, List.getElem?_set_ne hjq]
theorem ArrN.zero : ArrN (List.toArray (List.replicate 16 (.int .i64 0))) (zN 16) := by
  refine ⟨by simp, fun q hq => ?_⟩
  have : (zN 16).getD q 0 = 0 := by
    unfold zN
    rw [List.getD_eq_getElem?_getD, List.getElem?_replicate]
    split <;> rfl
  rw [this, List.getElem?_toArray, List.getElem?_replicate, if_pos hq]
  rfl
end Go.Proofs.Ytghkpmafocacoaa

namespace Go.Proofs.Ytghkpmafocacoaa
set_option maxRecDepth 100000
set_option linter.unusedVariables false
open Go.RowKit
def FLst0 (w : World) (B : Nat) (A : Option Addr) (n : Nat) (Fs : List Fac) : Prop := FLst w B A n Fs ∧ Nilf w A n
theorem FLst0.below {w w' : World} {B n : Nat} {A : Option Addr} {Fs : List Fac} (h : FLst0 w B A n Fs) (hb : Below B w w') : FLst0 w' B A n Fs := ⟨h.1.below hb, h.2.below h.1 hb⟩
theorem FLst0.more {w : World} {B B' n : Nat} {A : Option Addr} {Fs : List Fac} (h : FLst0 w B A n Fs) (hb : B ≤ B') : FLst0 w B' A n Fs := ⟨h.1.more hb, h.2⟩
end Go.Proofs.Ytghkpmafocacoaa

namespace Go.Proofs.Ytghkpmafocacoaa
set_option maxRecDepth 100000
open Go.RowKit
theorem Byt.more {w : World} {B B' : Nat} {A : Option Addr} {n : Nat} (h : Byt w B A n) (hB : B ≤ B') : Byt w B' A n := fun hn => by
  obtain ⟨g, off, e, hg, hc⟩ := h hn
  exact ⟨g, off, e, by omega, hc⟩
end Go.Proofs.Ytghkpmafocacoaa
namespace Go.Proofs.Ytghkpmafocacoaa
set_option maxRecDepth 100000
open Go.RowKit
theorem Chg.grown {a b c : World} {R : Nat} {row : Option Nat} (h : Chg a b R) (hg : b.grownBy c row) (hr : ∀ k, row = some k → a.heap.size ≤ k) : Chg a c R :=
  ⟨hg.os.trans h.os, hg.tape.trans h.tape, hg.output.trans h.output, Nat.le_trans h.size hg.size,
    fun i hi hne => (hg.block i (Nat.lt_of_lt_of_le hi h.size) (fun e => by have := hr i e.symm; omega)).trans (h.block i hi hne)⟩
theorem Rdr.grown {w w' : World} {B R : Nat} {A : Option Addr} {n c p : Nat} {row : Option Nat} (h : Rdr w B R A n c p) (hg : w.grownBy w' row) (hr : ∀ k, row = some k → B ≤ k ∧ k ≠ R) (hB : B ≤ w.heap.size) : Rdr w' B R A n c p :=
  ⟨(hg.block R h.lt (fun e => (hr R e.symm).2 rfl)).trans h.1, h.2.1, h.2.2.keep ((Below.refl B w).grown hg hB (fun k hk => (hr k hk).1))⟩
theorem Own.chg {w w' : World} {base R : Nat} {v : Value} {os : List St} (h : Own w base v os) (hc : Chg w w' R) (hR : R < base) : Own w' base v os := by
  refine World.ownsRow.kept h hc ?_
  cases hv : v.ownBlock with
  | none => exact .inl rfl
  | some k =>
    refine .inr fun e => ?_
    have h1 := (World.ownsRow.lt h k hv).1
    injection e with e
    omega
def St.put (s : St) : Nat → Int → St
  | 0, x => { s with k := x }
  | 1, x => { s with a := x }
  | 2, x => { s with b := x }
  | 3, x => { s with c := x }
  | 4, x => { s with u := x }
  | 5, x => { s with v := x }
  | _, x => { s with x := x }
def Prgd (w : World) (B R : Nat) (A : Option Addr) (n c p : Nat) (e : Ending) (w' : World) : Prop :=
  ∃ (v : Value) (os : List St) (p' : Nat), e = .returned v ∧ Own w' w.heap.size v os ∧ 1 ≤ os.length ∧ os.length ≤ 10 ∧ p' ≤ p + 200 ∧ Rdr w' B R A n c p' ∧ Chg w w' R
end Go.Proofs.Ytghkpmafocacoaa
namespace Go.Proofs.Ytghkpmafocacoaa
set_option maxRecDepth 100000
open Go.RowKit
def Anyd (w : World) (e : Ending) (w' : World) : Prop :=
  ∃ (v : Value) (os : List St), e = .returned v ∧ Own w' w.heap.size v os ∧ os.length ≤ 11 ∧ Below w.heap.size w w'
end Go.Proofs.Ytghkpmafocacoaa

namespace Go.Proofs.Ytghkpmafocacoaa
set_option maxRecDepth 100000
set_option linter.unusedVariables false
open Go.RowKit
theorem owns_chgD {w w' : World} {base size n R : Nat} {e : TypeId} {v : Value} {xs : List Value} (h : w.ownsRow base e size v n xs) (hc : Chg w w' R) (hR : R < base) : w'.ownsRow base e size v n xs :=
  owns_but h (KeptBut.of_grown hc (S := fun i => i = R) (fun k e => by injection e with e; exact e.symm)) (fun k hk e => by
    have := (World.ownsRow.lt h k hk).1
    omega)
/-- A factor in a variable, while a source of numbers goes along. -/
def FacD (w : World) (R : Nat) (wr : World) (G : Nat) (v1 v2 : Value) (vs ds : List Int) : Prop :=
  IOwn wr w.heap.size v2 ds ∧ IOwn wr w.heap.size v1 vs ∧ Has wr G 56 #[v1, v2] ∧ Has wr w.heap.size 56 #[.slice none 0 0, .slice none 0 0] ∧ Chg w wr R
theorem FacD.chg {w wr wx : World} {R G : Nat} {v1 v2 : Value} {vs ds : List Int} (h : FacD w R wr G v1 v2 vs ds) (hc : Chg wr wx R) (hR : R < w.heap.size) (hG : w.heap.size ≤ G) : FacD w R wx G v1 v2 vs ds :=
  ⟨owns_chgD h.1 hc hR, owns_chgD h.2.1 hc hR, h.2.2.1.chg hc (by omega), h.2.2.2.1.chg hc (by omega), h.2.2.2.2.trans hc⟩
theorem FacD.alloc {w wr : World} {R G : Nat} {v1 v2 : Value} {vs ds : List Int} (h : FacD w R wr G v1 v2 vs ds) (o : Obj) : FacD w R (wr.alloc o) G v1 v2 vs ds :=
  ⟨h.1.alloc o, h.2.1.alloc o, h.2.2.1.alloc o, h.2.2.2.1.alloc o, h.2.2.2.2.alloc o⟩
theorem FacD.grow {w wx w6 : World} {R G gr cr n : Nat} {v1 v2 : Value} {vs ds : List Int} {x : Int} (h : FacD w R wx G v1 v2 vs ds) (hl : ds.length = n) (hG : w.heap.size < G) (hR : R < w.heap.size) (hd : ∀ b, v1.ownBlock = some b → v2.ownBlock ≠ some b)
    (hown : w6.ownsRow w.heap.size 3 1 (.slice (some ⟨gr, 0, none⟩) (n + 1) cr) (n + 1) (ints ds ++ [.int .i64 x])) (hgrow : wx.grownBy w6 v2.ownBlock) (hat : v2.ownBlock = some gr ∨ gr = wx.heap.size) :
    FacD w R (w6.setCell ⟨G, 1, none⟩ (.slice (some ⟨gr, 0, none⟩) (n + 1) cr)) G v1 (.slice (some ⟨gr, 0, none⟩) (n + 1) cr) vs (ds ++ [x]) ∧ (∀ b, v1.ownBlock = some b → (Value.slice (some ⟨gr, 0, none⟩) (n + 1) cr).ownBlock ≠ some b) := by
  subst hl
  obtain ⟨h1, h2, h3, h4, h5⟩ := h
  have hA : IOwn w6 w.heap.size (.slice (some ⟨gr, 0, none⟩) (ds.length + 1) cr) (ds ++ [x]) := by
    unfold IOwn
    rw [List.length_append, ints_append]
    exact hown
  have hK := grown_but_ hgrow
  have k2 := h2.but hK (fun k e1 e2 => hd k e1 e2)
  have k3 := h3.but hK (fun e => iown_ne h1 h3 (by decide) G e rfl)
  have k4 := h4.but hK (fun e => iown_ne h1 h4 (by decide) _ e rfl)
  have hp : KeptBut w6 (w6.setCell ⟨G, 1, none⟩ (.slice (some ⟨gr, 0, none⟩) (ds.length + 1) cr)) (fun i => i = G) := (KeptBut.refl w6 (fun i => i = G)).put (p := ⟨G, 1, none⟩) (fun _ => rfl) _
  have hC := h5.grown hgrow (fun k hk => (World.ownsRow.lt h1 k hk).1)
  refine ⟨⟨hA.but hp (fun k e1 e2 => iown_ne hA k3 (by decide) k e1 e2), k2.but hp (fun k e1 e2 => iown_ne k2 k3 (by decide) k e1 e2), k3.put 1 _, k4.far (p := ⟨G, 1, none⟩) (by show w.heap.size ≠ G; omega) _, hC.new (q := ⟨G, 1, none⟩) (Nat.le_of_lt hG) _⟩, ?_⟩
  intro b hb e
  have e1 : gr = b := by simpa [Value.ownBlock] using e
  subst e1
  rcases hat with hat | hat
  · exact hd _ hb hat
  · obtain ⟨c1, g1⟩ := owns_has h2 hb
    have := g1.lt
    omega
end Go.Proofs.Ytghkpmafocacoaa

namespace Go.Proofs.Ytghkpmafocacoaa
set_option maxRecDepth 100000
set_option linter.unusedVariables false
open Go.RowKit
theorem FacD.put {w wr : World} {R G g2 n c2 : Nat} {v1 : Value} {vs ds : List Int} (h : FacD w R wr G v1 (.slice (some ⟨g2, 0, none⟩) n c2) vs ds) (hd : ∀ b, v1.ownBlock = some b → (Value.slice (some ⟨g2, 0, none⟩) n c2).ownBlock ≠ some b) (hl : ds.length = n ∧ 0 < n) (hg : w.heap.size ≤ g2) (x : Int) :
    FacD w R (wr.setCell ⟨g2, 0, none⟩ (.int .i64 x)) G v1 (.slice (some ⟨g2, 0, none⟩) n c2) vs (ds.set 0 x) := by
  obtain ⟨h1, h2, h3, h4, h5⟩ := h
  have hk : KeptBut wr (wr.setCell ⟨g2, 0, none⟩ (.int .i64 x)) (fun i => i = g2) := (KeptBut.refl wr (fun i => i = g2)).put (p := ⟨g2, 0, none⟩) (fun _ => rfl) _
  refine ⟨?_, h2.but hk (fun k e1 e2 => hd k e1 (by simp [Value.ownBlock, e2])), h3.but hk (fun e => ?_), h4.but hk (fun e => ?_), h5.new (q := ⟨g2, 0, none⟩) hg _⟩
  · unfold IOwn at h1 ⊢
    rw [List.length_set, hl.1] at *
    exact owns_set h1 hl.2
  · exact iown_ne h1 h3 (by decide) g2 (by simp [Value.ownBlock]) e.symm
  · exact iown_ne h1 h4 (by decide) g2 (by simp [Value.ownBlock]) e.symm
end Go.Proofs.Ytghkpmafocacoaa

namespace Go.Proofs.Ytghkpmafocacoaa
set_option maxRecDepth 100000
set_option linter.unusedVariables false
open Go.RowKit
theorem RowsF.chg {w w' : World} {base R : Nat} {v : Value} {Fs : List Fac} {vs : List Value} (h : RowsF w base v Fs vs) (hc : Chg w w' R) (hR : R < base) : RowsF w' base v Fs vs :=
  ⟨owns_chgD h.1 hc hR, fun i x hx => by
    obtain ⟨ds, h1, h2⟩ := h.2 i x hx
    exact ⟨ds, h1, owns_chgD h2 hc hR⟩⟩
end Go.Proofs.Ytghkpmafocacoaa

namespace Go.Proofs.Ytghkpmafocacoaa
set_option maxRecDepth 100000
set_option linter.unusedVariables false
open Go.RowKit
theorem fold_mul (st : Int) : ∀ (l : List Fac) (m : Int), l.foldl (fun m F => m * fAt F st) m = m * l.foldl (fun m F => m * fAt F st) 1
  | [], m => by show m = m * 1; omega
  | F :: r, m => by
    rw [List.foldl_cons, List.foldl_cons, fold_mul st r (m * fAt F st), fold_mul st r (1 * fAt F st), Int.one_mul, Int.mul_assoc]
theorem wcInts_eq (A A2 : Option Addr) (n n2 c c2 : Nat) (ds es : List Int) (w : World) (h : Ils w w.heap.size A n ds) (h2 : Ils w w.heap.size A2 n2 es) (hn : n ≤ maxLen) (hn2 : n2 ≤ maxLen) (he : ds = es) :
    Calls Try.prog 46 #[.slice A n c, .slice A2 n2 c2] w fun e w' => e = .returned (.bool true) ∧ Below w.heap.size w w' :=
  (wcInts_any A A2 n n2 c c2 ds es w h h2 hn hn2).mono fun e w' ⟨h1, q, h3⟩ => ⟨by rw [h1, decide_eq_true he], by rw [h3]; exact below_drewN (Below.refl _ _) q⟩
/-- A row of factors of the call's own whose numbers are elder ones. -/
def Bk (w : World) (b : Nat) (v : Value) (Fs : List Fac) (vs : List Value) : Prop :=
  w.ownsRow b 56 2 v Fs.length vs ∧ ∀ j F, Fs[j]? = some F → ∃ (A1 : Option Addr) (n1 c1 : Nat) (A2 : Option Addr) (n2 c2 : Nat), vs[j * 2]? = some (.slice A1 n1 c1) ∧ vs[j * 2 + 1]? = some (.slice A2 n2 c2) ∧ FacW w b A1 n1 A2 n2 F
theorem Bk.length {w : World} {b : Nat} {v : Value} {Fs : List Fac} {vs : List Value} (h : Bk w b v Fs vs) : vs.length = Fs.length * 2 := h.1.1
theorem Bk.form {w : World} {b : Nat} {v : Value} {Fs : List Fac} {vs : List Value} (h : Bk w b v Fs vs) : ∃ A c, v = .slice A Fs.length c ∧ Fs.length ≤ c ∧ c ≤ maxLen := by
  rcases h.1.2 with ⟨hv, hn⟩ | ⟨g, cap, cur, hv, _, _, h1, h2, _⟩
  · exact ⟨none, 0, by rw [hv, hn], by omega, by simp [maxLen]⟩
  · exact ⟨_, cap, hv, h1, h2⟩
theorem Bk.flst {w : World} {b n c : Nat} {A : Option Addr} {Fs : List Fac} {vs : List Value} (h : Bk w b (.slice A n c) Fs vs) (hn : Fs.length = n) (hb : b ≤ w.heap.size) : FLst w w.heap.size A n Fs := by
  refine ⟨hn, fun h0 => ?_⟩
  obtain ⟨g, hA⟩ : ∃ g, A = some ⟨g, 0, none⟩ := by
    rcases h.1.2 with ⟨hv, h9⟩ | ⟨g', cap, cur, hv, _⟩
    · injection hv; omega
    · injection hv with e1 _ _; exact ⟨g', e1⟩
  subst hA
  refine ⟨g, 0, rfl, (World.ownsRow.lt h.1 g rfl).2, fun k F hF => ?_⟩
  obtain ⟨A1, n1, c1, A2, n2, c2, h1, h2, h3⟩ := h.2 k F hF
  have e1 := World.ownsRow.cells h.1 (g := g) rfl _ _ h1
  have e2 := World.ownsRow.cells h.1 (g := g) rfl _ _ h2
  rw [cell_add] at e1 e2
  rw [Nat.zero_add]
  exact ⟨A1, n1, c1, A2, n2, c2, e1, e2, h3.more hb⟩
theorem Bk.append_ {w w' : World} {b m1 d1 m2 d2 : Nat} {D1 D2 : Option Addr} {v v' : Value} {Fs : List Fac} {vs : List Value} {F : Fac} (h : Bk w b v Fs vs) (hx : FacW w b D1 m1 D2 m2 F)
    (hN : w'.ownsRow b 56 2 v' (Fs.length + 1) (vs ++ [.slice D1 m1 d1, .slice D2 m2 d2])) (hb : Below b w w') : Bk w' b v' (Fs ++ [F]) (vs ++ [.slice D1 m1 d1, .slice D2 m2 d2]) := by
  refine ⟨by rw [List.length_append, List.length_singleton]; exact hN, fun j G hG => ?_⟩
  have hl := h.length
  by_cases hj : j < Fs.length
  · rw [List.getElem?_append_left hj] at hG
    obtain ⟨A1, n1, c1, A2, n2, c2, h1, h2, h3⟩ := h.2 j G hG
    exact ⟨A1, n1, c1, A2, n2, c2, by rw [List.getElem?_append_left (by omega)]; exact h1, by rw [List.getElem?_append_left (by omega)]; exact h2, h3.keep_ hb⟩
  · have hjl : j = Fs.length := by
      have := (List.getElem?_eq_some_iff.1 hG).1
      rw [List.length_append, List.length_singleton] at this
      omega
    subst hjl
    rw [List.getElem?_append_right (Nat.le_refl _), Nat.sub_self] at hG
    obtain rfl : F = G := by simpa using hG
    refine ⟨D1, m1, d1, D2, m2, d2, ?_, ?_, hx.keep_ hb⟩
    · rw [List.getElem?_append_right (by omega), hl, Nat.sub_self]; rfl
    · rw [List.getElem?_append_right (by omega), hl, Nat.add_sub_cancel_left]; rfl
theorem Bk.below {w w' : World} {b : Nat} {v : Value} {Fs : List Fac} {vs : List Value} (h : Bk w b v Fs vs) (hb : Below w.heap.size w w') (hbw : b ≤ w.heap.size) : Bk w' b v Fs vs :=
  ⟨owns_but h.1 (KeptBut.of_below hb (fun _ => False)) (fun _ _ e => e), fun j F hF => by
    obtain ⟨A1, n1, c1, A2, n2, c2, h1, h2, h3⟩ := h.2 j F hF
    exact ⟨A1, n1, c1, A2, n2, c2, h1, h2, h3.keep_ (hb.mono hbw)⟩⟩
end Go.Proofs.Ytghkpmafocacoaa

namespace Go.Proofs.Ytghkpmafocacoaa
set_option maxRecDepth 100000
set_option linter.unusedVariables false
open Go.RowKit
/-- The stride of a variable in a factor over a set. -/
def strL (L : Int) (v : Nat) : Int := if tb L v = true then ((3 ^ ((List.range v).filter fun u => tb L u).length : Nat) : Int) else 0
end Go.Proofs.Ytghkpmafocacoaa

namespace Go.Proofs.Ytghkpmafocacoaa
set_option maxRecDepth 100000
set_option linter.unusedVariables false
open Go.RowKit
def strA (v1 v2 : Value) (f : Nat → Int) : Array Value := #[v1, v2, .int .i64 (f 0), .int .i64 (f 1), .int .i64 (f 2), .int .i64 (f 3)]
theorem strA_size (v1 v2 : Value) (f : Nat → Int) : (strA v1 v2 f).size = 6 := rfl
end Go.Proofs.Ytghkpmafocacoaa

namespace Go.Proofs.Ytghkpmafocacoaa
set_option maxRecDepth 100000
set_option linter.unusedVariables false
open Go.RowKit
/-- Inner rows of factors. -/
def InnF (w : World) (base : Nat) (Fs : List Fac) (us : List Value) : Prop := us.length = Fs.length * 2 ∧ ∀ (i : Nat) (x : Value), us[i]? = some x → ∃ ds, (rowsF Fs)[i]? = some ds ∧ IOwn w base x ds
theorem InnF.nil (w : World) (base : Nat) : InnF w base [] [] := ⟨rfl, fun i x h => by simp at h⟩
theorem InnF.but {w w' : World} {base : Nat} {Fs : List Fac} {us : List Value} {S : Nat → Prop} (h : InnF w base Fs us) (hk : KeptBut w w' S) (hS : ∀ k cur, Has w k 3 cur → base ≤ k → (∃ x ∈ us, x.ownBlock = some k) → ¬ S k) : InnF w' base Fs us := ⟨h.1, fun i x hx => by
  obtain ⟨ds, hd, ho⟩ := h.2 i x hx
  refine ⟨ds, hd, ho.but hk fun k hkb => ?_⟩
  obtain ⟨cur, hc⟩ := owns_has ho hkb
  exact hS k cur hc (World.ownsRow.lt ho k hkb).1 ⟨x, List.mem_of_getElem? hx, hkb⟩⟩
theorem InnF.below {w w' : World} {base : Nat} {Fs : List Fac} {us : List Value} (h : InnF w base Fs us) (hb : Below w.heap.size w w') : InnF w' base Fs us := h.but (KeptBut.of_below hb (fun _ => False)) (fun _ _ _ _ _ e => e)
theorem InnF.blk {w : World} {base : Nat} {Fs : List Fac} {us : List Value} (h : InnF w base Fs us) : ∀ y ∈ us, ∀ k, y.ownBlock = some k → k < w.heap.size := fun y hy k hk => by
  obtain ⟨i, hi, rfl⟩ := List.getElem_of_mem hy
  obtain ⟨ds, _, ho⟩ := h.2 i _ (List.getElem?_eq_getElem hi)
  exact (World.ownsRow.lt ho k hk).2
theorem InnF.snoc {w : World} {base : Nat} {Fs : List Fac} {us : List Value} {F : Fac} {x y : Value} (h : InnF w base Fs us) (hx : IOwn w base x F.vs) (hy : IOwn w base y F.ns) : InnF w base (Fs ++ [F]) (us ++ [x, y]) := by
  have hrf : rowsF (Fs ++ [F]) = rowsF Fs ++ [F.vs, F.ns] := by unfold rowsF; rw [List.flatMap_append]; rfl
  have hrl := rowsF_len Fs
  have hl := h.1
  refine ⟨by simp [hl]; omega, fun i z hz => ?_⟩
  rw [hrf]
  by_cases hi : i < us.length
  · rw [List.getElem?_append_left hi] at hz
    obtain ⟨ds, hd, ho⟩ := h.2 i z hz
    exact ⟨ds, by rw [List.getElem?_append_left (by omega)]; exact hd, ho⟩
  · rw [List.getElem?_append_right (by omega)] at hz
    rw [List.getElem?_append_right (by omega), hrl, ← hl]
    have hi2 := (List.getElem?_eq_some_iff.1 hz).1
    simp at hi2
    obtain h0 | h0 : i - us.length = 0 ∨ i - us.length = 1 := by omega
    · rw [h0] at hz ⊢
      have : x = z := by simpa using hz
      subst this
      exact ⟨F.vs, rfl, hx⟩
    · rw [h0] at hz ⊢
      have : y = z := by simpa using hz
      subst this
      exact ⟨F.ns, rfl, hy⟩
theorem InnF.at_ {w : World} {base k : Nat} {Fs : List Fac} {us : List Value} {F : Fac} (h : InnF w base Fs us) (hF : Fs[k]? = some F) : ∃ (A1 : Option Addr) (c1 : Nat) (A2 : Option Addr) (c2 : Nat), us[k * 2]? = some (.slice A1 F.vs.length c1) ∧ us[k * 2 + 1]? = some (.slice A2 F.ns.length c2) ∧ IOwn w base (.slice A1 F.vs.length c1) F.vs ∧ IOwn w base (.slice A2 F.ns.length c2) F.ns := by
  have hk := (List.getElem?_eq_some_iff.1 hF).1
  have hl := h.1
  obtain ⟨r1, r2⟩ := rowsF_get hF
  obtain ⟨x, hx⟩ : ∃ x, us[k * 2]? = some x := ⟨_, List.getElem?_eq_getElem (by omega)⟩
  obtain ⟨y, hy⟩ : ∃ y, us[k * 2 + 1]? = some y := ⟨_, List.getElem?_eq_getElem (by omega)⟩
  obtain ⟨ds, hds, hxo⟩ := h.2 _ x hx
  obtain ⟨es, hes, hyo⟩ := h.2 _ y hy
  obtain rfl : F.vs = ds := Option.some.inj (r1.symm.trans hds)
  obtain rfl : F.ns = es := Option.some.inj (r2.symm.trans hes)
  obtain ⟨A1, c1, rfl, _, _⟩ := IOwn.form hxo
  obtain ⟨A2, c2, rfl, _, _⟩ := IOwn.form hyo
  exact ⟨A1, c1, A2, c2, hx, hy, hxo, hyo⟩
/-- The cells of a list of factors as arrays. -/
def sflat : List Fac → List Value → List Value
  | F :: r, x :: y :: us => (strA x y (strL (setOf F.vs))).toList ++ sflat r us
  | _, _ => []
theorem sflat_len : ∀ (Fs : List Fac) (us : List Value), us.length = Fs.length * 2 → (sflat Fs us).length = Fs.length * 6
  | [], _, _ => by unfold sflat; rfl
  | F :: r, [], h => by simp at h
  | F :: r, [x], h => by simp at h; omega
  | F :: r, x :: y :: us, h => by
    have ih := sflat_len r us (by simp at h; omega)
    show ((strA x y (strL (setOf F.vs))).toList ++ sflat r us).length = (r.length + 1) * 6
    rw [List.length_append, ih]
    show 6 + r.length * 6 = (r.length + 1) * 6
    omega
theorem sflat_get : ∀ {Fs : List Fac} {us : List Value}, us.length = Fs.length * 2 → ∀ {k : Nat} {F : Fac} {x y : Value}, Fs[k]? = some F → us[k * 2]? = some x → us[k * 2 + 1]? = some y → ∀ j, j < 6 → (sflat Fs us)[k * 6 + j]? = (strA x y (strL (setOf F.vs)))[j]?
  | [], _, _, k, F, x, y, hF, _, _, _, _ => by simp at hF
  | G :: r, [], h, _, _, _, _, _, _, _, _, _ => by simp at h
  | G :: r, [a], h, _, _, _, _, _, _, _, _, _ => by simp at h; omega
  | G :: r, a :: b :: us, h, 0, F, x, y, hF, hx, hy, j, hj => by
    have e1 : G = F := by simpa using hF
    have e2 : a = x := by simpa using hx
    have e3 : b = y := by simpa using hy
    subst e1 e2 e3
    show ((strA a b (strL (setOf G.vs))).toList ++ sflat r us)[0 * 6 + j]? = _
    rw [Nat.zero_mul, Nat.zero_add, List.getElem?_append_left (by show j < 6; exact hj), Array.getElem?_toList]
  | G :: r, a :: b :: us, h, k + 1, F, x, y, hF, hx, hy, j, hj => by
    have ih := sflat_get (Fs := r) (us := us) (by simp at h; omega) (k := k) (F := F) (x := x) (y := y) (by simpa using hF)
      (by rw [show (k + 1) * 2 = k * 2 + 1 + 1 by omega] at hx; simpa using hx) (by rw [show (k + 1) * 2 + 1 = k * 2 + 1 + 1 + 1 by omega] at hy; simpa using hy) j hj
    show ((strA a b (strL (setOf G.vs))).toList ++ sflat r us)[(k + 1) * 6 + j]? = _
    rw [List.getElem?_append_right (by show 6 ≤ (k + 1) * 6 + j; omega), ← ih]
    congr 1
    show (k + 1) * 6 + j - 6 = _
    omega
theorem InnF.one {w : World} {base : Nat} {Fs : List Fac} {us : List Value} (h : InnF w base Fs us) : ∀ u ∈ us, u.oneCell' = true := fun u hu => by
  obtain ⟨i, hi, rfl⟩ := List.getElem_of_mem hu
  obtain ⟨ds, _, ho⟩ := h.2 i _ (List.getElem?_eq_getElem hi)
  obtain ⟨A, c, e, _, _⟩ := IOwn.form ho
  rw [e]; rfl
end Go.Proofs.Ytghkpmafocacoaa

namespace Go.Proofs.Ytghkpmafocacoaa
set_option maxRecDepth 100000
set_option linter.unusedVariables false
open Go.RowKit
/-- The first k places are filled in. -/
def FillS (cs : Array Value) (Fs : List Fac) (us : List Value) (n k : Nat) : Prop := cs.size = n * 6 ∧ ∀ i F x y, i < k → Fs[i]? = some F → us[i * 2]? = some x → us[i * 2 + 1]? = some y → ∀ j, j < 6 → cs[i * 6 + j]? = (strA x y (strL (setOf F.vs)))[j]?
theorem FillS.all {cs : Array Value} {Fs : List Fac} {us : List Value} {n : Nat} (h : FillS cs Fs us n n) (hn : Fs.length = n) (hu : us.length = Fs.length * 2) : cs.toList = sflat Fs us := by
  apply List.ext_getElem?
  intro z
  rw [Array.getElem?_toList]
  by_cases hz : z < n * 6
  · have hk : z / 6 < Fs.length := by omega
    have h1 := h.2 (z / 6) Fs[z / 6] us[z / 6 * 2] us[z / 6 * 2 + 1] (by omega) (List.getElem?_eq_getElem hk) (List.getElem?_eq_getElem (by omega)) (List.getElem?_eq_getElem (by omega)) (z % 6) (by omega)
    have h2 := sflat_get hu (k := z / 6) (List.getElem?_eq_getElem hk) (List.getElem?_eq_getElem (show z / 6 * 2 < us.length by omega)) (List.getElem?_eq_getElem (show z / 6 * 2 + 1 < us.length by omega)) (z % 6) (by omega)
    rw [show z / 6 * 6 + z % 6 = z by omega] at h1 h2
    rw [h1, h2]
  · rw [Array.getElem?_eq_none (by rw [h.1]; omega), List.getElem?_eq_none (by rw [sflat_len Fs us hu]; omega)]
theorem FillS.step {cs cs' : Array Value} {Fs : List Fac} {us : List Value} {n k : Nat} {F : Fac} {x y : Value} (h : FillS cs Fs us n k) (hu : us.length = k * 2) (hF : Fs[k]? = some F) (h1 : cs'.size = cs.size)
    (h2 : ∀ j v, (strA x y (strL (setOf F.vs))).toList[j]? = some v → cs'[k * 6 + j]? = some v) (h3 : ∀ i, (i < k * 6 ∨ k * 6 + 6 ≤ i) → cs'[i]? = cs[i]?) : FillS cs' Fs (us ++ [x, y]) n (k + 1) := by
  refine ⟨by rw [h1]; exact h.1, fun i G a b hi hG ha hb j hj => ?_⟩
  by_cases hik : i < k
  · rw [List.getElem?_append_left (by omega)] at ha hb
    rw [h3 _ (by omega)]
    exact h.2 i G a b hik hG ha hb j hj
  · obtain rfl : i = k := by omega
    rw [List.getElem?_append_right (by omega), hu, Nat.sub_self] at ha
    rw [List.getElem?_append_right (by omega), hu, show i * 2 + 1 - i * 2 = 1 by omega] at hb
    obtain rfl : x = a := by simpa using ha
    obtain rfl : y = b := by simpa using hb
    obtain rfl : F = G := Option.some.inj (hF.symm.trans hG)
    have hjs : j < (strA x y (strL (setOf F.vs))).size := by rw [strA_size]; exact hj
    rw [h2 j (strA x y (strL (setOf F.vs)))[j] (by rw [Array.getElem?_toList]; exact Array.getElem?_eq_getElem hjs), Array.getElem?_eq_getElem hjs]
end Go.Proofs.Ytghkpmafocacoaa

namespace Go.Proofs.Ytghkpmafocacoaa
set_option maxRecDepth 100000
set_option linter.unusedVariables false
open Go.RowKit
theorem prodAt_cons (F : Fac) (r : List Fac) (st : Int) : prodAt (F :: r) st = fAt F st * prodAt r st := by
  unfold prodAt
  rw [List.foldl_cons, fold_mul st r (1 * fAt F st), Int.one_mul]
end Go.Proofs.Ytghkpmafocacoaa

namespace Go.Proofs.Ytghkpmafocacoaa
set_option maxRecDepth 100000
set_option linter.unusedVariables false
/-- How many values a statement draws from. -/
def St.many (s : St) : Nat := if s.draws then 3 else 1
theorem many_le (s : St) : s.many ≤ 3 := by unfold St.many; split <;> omega
theorem many_pos (s : St) : 1 ≤ s.many := by unfold St.many; split <;> omega
/-- A run that is at the end at the most. -/
def clp (m : Nat) (r : Rn) : Rn := ⟨min r.pos m, r.st, r.wt⟩
/-- The runs that come of one. -/
def prt (m : Nat) (s : St) (r : Rn) : List Rn := (List.range s.many).map fun (d : Nat) => clp m (Rn.step s r d)
theorem prt_length (m : Nat) (s : St) (r : Rn) : (prt m s r).length = s.many := by simp [prt]
theorem prt_at {m : Nat} {s : St} {r : Rn} {d : Nat} (h : d < s.many) : (prt m s r)[d]? = some (clp m (Rn.step s r d)) := by
  unfold prt
  rw [List.getElem?_map, List.getElem?_range h]; rfl
/-- The cells of a row that has a number for each state. -/
def RowA (cs : Array Value) (g : Int → Int) : Prop := cs.size = 81 ∧ ∀ q : Nat, q < 81 → cs[q]? = some (.int .i64 (g q))
theorem RowA.congr {cs : Array Value} {g g' : Int → Int} (h : RowA cs g) (e : ∀ st, 0 ≤ st ∧ st ≤ 80 → g st = g' st) : RowA cs g' := ⟨h.1, fun q hq => by rw [← e q (by omega)]; exact h.2 q hq⟩
end Go.Proofs.Ytghkpmafocacoaa
