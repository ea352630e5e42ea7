/- Parts of the proof: KP, LG, LE, Dn, MA. -/
import Derived.Test.YtghkpmafocacoaaZAS
import Derived.Test.YtghkpmafocacoaaZAE
import Derived.Test.YtghkpmafocacoaaZAG
import Derived.Test.YtghkpmafocacoaaZAO
import Derived.Test.YtghkpmafocacoaaZAF
import Derived.Test.YtghkpmafocacoaaZAT
import Derived.Test.YtghkpmafocacoaaZAC
namespace Go.Proofs.Ytghkpmafocacoaa
set_option maxRecDepth 100000
set_option linter.unusedVariables false
open Go.RowKit
theorem wcInts_eq (A A2 : Option Addr) (n n2 c c2 : Nat) (ds es : List Int) (w : World) (h : Ils w w.heap.size A n ds) (h2 : Ils w w.heap.size A2 n2 es) (hn : n ≤ maxLen) (hn2 : n2 ≤ maxLen) (he : ds = es) :
    Calls Try.prog 46 #[.slice A n c, .slice A2 n2 c2] w fun e w' => e = .returned (.bool true) ∧ Below w.heap.size w w' :=
  (wcInts_any A A2 n n2 c c2 ds es w h h2 hn hn2).mono fun e w' ⟨h1, q, h3⟩ => ⟨by rw [h1, decide_eq_true he], by rw [h3]; exact below_drewN (Below.refl _ _) q⟩
/-- A row of factors of the call's own whose numbers are elder ones. -/
def Bk (w : World) (b : Nat) (v : Value) (Fs : List Fac) (vs : List Value) : Prop :=
  w.ownsRow b 56 2 v Fs.length vs ∧ ∀ j F, Fs[j]? = some F → ∃ (A1 : Option Addr) (n1 c1 : Nat) (A2 : Option Addr) (n2 c2 : Nat), vs[j * 2]? = some (.slice A1 n1 c1) ∧ vs[j * 2 + 1]? = some (.slice A2 n2 c2) ∧ FacW w b A1 n1 A2 n2 F
theorem Bk.length {w : World} {b : Nat} {v : Value} {Fs : List Fac} {vs : List Value} (h : Bk w b v Fs vs) : vs.length = Fs.length * 2 := h.1.1
theorem Bk.form {w : World} {b : Nat} {v : Value} {Fs : List Fac} {vs : List Value} (h : Bk w b v Fs vs) : ∃ A c, v = .slice A Fs.length c ∧ Fs.length ≤ c ∧ c ≤ maxLen := by
  rcases h.1.2 with ⟨hv, hn⟩ | ⟨g, cap, cur, hv, _, _, h1, h2, _⟩
  · exact ⟨none, 0, by rw [hv, hn], by omega, by simp [maxLen]⟩
  · exact ⟨_, cap, hv, h1, h2⟩
theorem Bk.flst {w : World} {b n c : Nat} {A : Option Addr} {Fs : List Fac} {vs : List Value} (h : Bk w b (.slice A n c) Fs vs) (hn : Fs.length = n) (hb : b ≤ w.heap.size) : FLst w w.heap.size A n Fs := by
  refine ⟨hn, fun h0 => ?_⟩
  obtain ⟨g, hA⟩ : ∃ g, A = some ⟨g, 0, none⟩ := by
    rcases h.1.2 with ⟨hv, h9⟩ | ⟨g', cap, cur, hv, _⟩
    · injection hv; omega
    · injection hv with e1 _ _; exact ⟨g', e1⟩
  subst hA
  refine ⟨g, 0, rfl, (World.ownsRow.lt h.1 g rfl).2, fun k F hF => ?_⟩
  obtain ⟨A1, n1, c1, A2, n2, c2, h1, h2, h3⟩ := h.2 k F hF
  have e1 := World.ownsRow.cells h.1 (g := g) rfl _ _ h1
  have e2 := World.ownsRow.cells h.1 (g := g) rfl _ _ h2
  rw [cell_add] at e1 e2
  rw [Nat.zero_add]
  exact ⟨A1, n1, c1, A2, n2, c2, e1, e2, h3.more hb⟩
theorem Bk.append_ {w w' : World} {b m1 d1 m2 d2 : Nat} {D1 D2 : Option Addr} {v v' : Value} {Fs : List Fac} {vs : List Value} {F : Fac} (h : Bk w b v Fs vs) (hx : FacW w b D1 m1 D2 m2 F)
    (hN : w'.ownsRow b 56 2 v' (Fs.length + 1) (vs ++ [.slice D1 m1 d1, .slice D2 m2 d2])) (hb : Below b w w') : Bk w' b v' (Fs ++ [F]) (vs ++ [.slice D1 m1 d1, .slice D2 m2 d2]) := by
  refine ⟨by rw [List.length_append, List.length_singleton]; exact hN, fun j G hG => ?_⟩
  have hl := h.length
  by_cases hj : j < Fs.length
  · rw [List.getElem?_append_left hj] at hG
    obtain ⟨A1, n1, c1, A2, n2, c2, h1, h2, h3⟩ := h.2 j G hG
    exact ⟨A1, n1, c1, A2, n2, c2, by rw [List.getElem?_append_left (by omega)]; exact h1, by rw [List.getElem?_append_left (by omega)]; exact h2, h3.keep_ hb⟩
  · have hjl : j = Fs.length := by
      have := (List.getElem?_eq_some_iff.1 hG).1
      rw [List.length_append, List.length_singleton] at this
      omega
    subst hjl
    rw [List.getElem?_append_right (Nat.le_refl _), Nat.sub_self] at hG
    obtain rfl : F = G := by simpa using hG
    refine ⟨D1, m1, d1, D2, m2, d2, ?_, ?_, hx.keep_ hb⟩
    · rw [List.getElem?_append_right (by omega), hl, Nat.sub_self]; rfl
    · rw [List.getElem?_append_right (by omega), hl, Nat.add_sub_cancel_left]; rfl
theorem Bk.below {w w' : World} {b : Nat} {v : Value} {Fs : List Fac} {vs : List Value} (h : Bk w b v Fs vs) (hb : Below w.heap.size w w') (hbw : b ≤ w.heap.size) : Bk w' b v Fs vs :=
  ⟨owns_but h.1 (KeptBut.of_below hb (fun _ => False)) (fun _ _ e => e), fun j F hF => by
    obtain ⟨A1, n1, c1, A2, n2, c2, h1, h2, h3⟩ := h.2 j F hF
    exact ⟨A1, n1, c1, A2, n2, c2, h1, h2, h3.keep_ (hb.mono hbw)⟩⟩
end Go.Proofs.Ytghkpmafocacoaa

namespace Go.Proofs.Ytghkpmafocacoaa
set_option maxRecDepth 100000
set_option linter.unusedVariables false
open Go.RowKit
theorem okM_parts {Fs : List Fac} {u t : Int} (h : okM Fs u t = true) : ∃ a b : Fin 4, u = (a.val : Int) ∧ t = (b.val : Int) ∧ a ≠ b ∧ treeOk Fs = true ∧ ((gOf Fs).nx a.val).testBit b.val = true := by
  unfold okM at h
  rw [Bool.and_eq_true, Bool.and_eq_true] at h
  obtain ⟨h1, h2, h3⟩ := h
  have ht := inB_iff.1 h3
  unfold nxI at h2
  by_cases hu : inB u 0 3 = true
  · rw [if_pos hu] at h2
    have hu' := inB_iff.1 hu
    have hb : ((gOf Fs).nx u.toNat).testBit t.toNat = true := h2
    refine ⟨⟨u.toNat, by omega⟩, ⟨t.toNat, by omega⟩, by show u = (u.toNat : Int); omega, by show t = (t.toNat : Int); omega, fun e => ?_, h1, hb⟩
    have e' : u.toNat = t.toNat := congrArg Fin.val e
    have := (prs_row (gOf Fs) ⟨u.toNat, by omega⟩).2.2.2.1
    simp only at this
    rw [← e', this] at hb
    cases hb
  · rw [if_neg hu] at h2
    unfold tb at h2
    rw [show ((0 : Int)).toNat = 0 from rfl, Nat.zero_testBit] at h2
    cases h2
theorem less_tree {Fs : List Fac} (h : treeOk Fs = true) {a b : Nat} (ha : a ≤ 3) (hb : b ≤ 3) (hn : a ≠ b) : treeOk (lessL Fs a b) = true ∧ gOf (lessL Fs a b) = (gOf Fs).cut a b := by
  obtain ⟨h1, h2⟩ := tree_parts h
  have hg := grL_less ha hb hn (list_nine h1) h2
  refine ⟨?_, by unfold gOf; rw [hg]; rw [h2]; rfl⟩
  unfold treeOk
  rw [hg, Bool.and_eq_true]
  refine ⟨?_, rfl⟩
  unfold listOk at h1 ⊢
  rw [Bool.and_eq_true, decide_eq_true_eq] at h1 ⊢
  refine ⟨Nat.le_trans (List.length_filter_le _ _) h1.1, List.all_eq_true.2 fun F hF => List.all_eq_true.1 h1.2 F (List.mem_filter.1 hF).1⟩
theorem bel_less {Fs : List Fac} (h : treeOk Fs = true) {a b : Nat} (ha : a ≤ 3) (hb : b ≤ 3) (hn : a ≠ b) (he : ((gOf Fs).nx a).testBit b = true) :
    belR (lessL Fs a b) (a : Int) = [IntKind.i64.wrap (allT Fs (gOf Fs) a b 0), IntKind.i64.wrap (allT Fs (gOf Fs) a b 1), IntKind.i64.wrap (allT Fs (gOf Fs) a b 2)] := by
  obtain ⟨h1, h2⟩ := less_tree h ha hb hn
  have hac := (tree_fst h).1.acy
  unfold belR
  rw [if_pos (by rw [h1, inB_iff.2 (show (0 : Int) ≤ (a : Int) ∧ (a : Int) ≤ 3 by omega)]; rfl), h2, Int.toNat_natCast, all_less hac ha hb he, all_less hac ha hb he, all_less hac ha hb he]
/-- The pair, as it is found on the way. -/
def pr1 (Fs : List Fac) (a b : Nat) : Fac := Fs.foldl (fun p F => if isP F a b = true then F else p) ⟨[], []⟩
theorem pr1_take {Fs : List Fac} {k : Nat} {F : Fac} (h : Fs[k]? = some F) (a b : Nat) : pr1 (Fs.take (k + 1)) a b = if isP F a b = true then F else pr1 (Fs.take k) a b := by
  obtain ⟨hl, he⟩ := List.getElem?_eq_some_iff.1 h
  unfold pr1
  rw [List.take_succ_eq_append_getElem hl, List.foldl_append, he]
  rfl
theorem less_take {Fs : List Fac} {k : Nat} {F : Fac} (h : Fs[k]? = some F) (a b : Nat) : lessL (Fs.take (k + 1)) a b = if isP F a b = true then lessL (Fs.take k) a b else lessL (Fs.take k) a b ++ [F] := by
  obtain ⟨hl, he⟩ := List.getElem?_eq_some_iff.1 h
  unfold lessL
  rw [List.take_succ_eq_append_getElem hl, List.filter_append, he]
  cases hi : isP F a b <;> simp [hi]
theorem pr1_fold (p : Fac → Bool) : ∀ (l : List Fac) (d : Fac), l.foldl (fun q F => if p F = true then F else q) d = (l.filter p).getLast?.getD d
  | [], d => rfl
  | F :: r, d => by
    rw [List.foldl_cons, pr1_fold p r]
    cases hp : p F
    · rw [List.filter_cons_of_neg (by simp [hp])]
      simp
    · rw [List.filter_cons_of_pos hp, List.getLast?_cons]
      simp
theorem pr1_btw {Fs : List Fac} {g : Gr} (h : Fst Fs g) (a b : Fin 4) : pr1 Fs a.val b.val = btw Fs a.val b.val := by
  have h1 := h.one a b
  unfold pr1 btw
  rw [pr1_fold (fun F => isP F a.val b.val), ← List.head?_filter]
  match hl : Fs.filter (fun F => isP F a.val b.val), h1 with
  | [], _ => rfl
  | [F], _ => rfl
  | F :: G :: r, h1 => simp at h1
theorem btw_ok9 {Fs : List Fac} (h : treeOk Fs = true) {a b : Fin 4} (he : ((gOf Fs).nx a.val).testBit b.val = true) : facOk 9 (btw Fs a.val b.val) = true := by
  have hf := tree_fst h
  have hb := hf.1.ed a b
  rw [he] at hb
  obtain ⟨F, hF, hp⟩ := List.any_eq_true.1 hb.symm
  unfold btw
  cases hq : Fs.find? fun F => isP F a.val b.val with
  | none => exact absurd hp (List.find?_eq_none.1 hq F hF)
  | some G => exact hf.2.1 G (List.mem_of_find?_eq_some hq)
/-- How the law looks whether a factor is the pair. -/
theorem test_pair {F : Fac} (h : facOk 9 F = true) (h2 : F.vs.length = 2) (a b : Fin 4) (x y : Int) (hv : F.vs = [x, y]) : isP F a.val b.val = (decide (x + y = (a.val : Int) + (b.val : Int)) && (decide (x = (a.val : Int)) || decide (x = (b.val : Int)))) := by
  obtain ⟨c, d, hcd, hv2, ec, ed⟩ := pair_two h h2
  rw [isP_self F hcd h2 ec ed]
  rw [hv] at hv2
  simp only [List.cons.injEq, and_true] at hv2
  obtain ⟨rfl, rfl⟩ := hv2
  have key : ∀ c d a b : Fin 4, (decide (a = c ∧ b = d) || decide (a = d ∧ b = c)) = (decide ((c.val : Int) + (d.val : Int) = (a.val : Int) + (b.val : Int)) && (decide ((c.val : Int) = (a.val : Int)) || decide ((c.val : Int) = (b.val : Int)))) := by decide +kernel
  exact key c d a b
theorem not_pair {F : Fac} (h : F.vs.length ≠ 2) (a b : Nat) : isP F a b = false := by
  unfold isP
  rw [show (F.vs.length == 2) = false by rw [beq_eq_false_iff_ne]; exact h]
  rfl
/-- The sum of products, as it goes. -/
def msP (a f : Nat → Int) : Nat → Int
  | 0 => 0
  | k + 1 => IntKind.i64.wrap (msP a f k + IntKind.i64.wrap (a k * f k))
theorem msP_three (A f : Nat → Int) : msP (fun x => IntKind.i64.wrap (A x)) f 3 = IntKind.i64.wrap (sum3 fun x => A x * f x) := by
  show IntKind.i64.wrap (IntKind.i64.wrap (IntKind.i64.wrap (0 + IntKind.i64.wrap (IntKind.i64.wrap (A 0) * f 0)) + IntKind.i64.wrap (IntKind.i64.wrap (A 1) * f 1)) + IntKind.i64.wrap (IntKind.i64.wrap (A 2) * f 2)) = _
  rw [wrap_mul_l, wrap_mul_l, wrap_mul_l, Int.zero_add, wrap_idem, wrap_add (A 0 * f 0), wrap_add (A 0 * f 0 + A 1 * f 1)]
  rfl
theorem st2_bd80 : ∀ u t : Fin 4, ∀ x y : Fin 3, inB (st2 u.val x.val t.val y.val) 0 80 = true := by decide +kernel
/-- The number that the law holds against the message. -/
theorem msg_sum {Fs : List Fac} {a b : Fin 4} (hn : a ≠ b) (h : treeOk Fs = true) (he : ((gOf Fs).nx a.val).testBit b.val = true) (hk : okM Fs (a.val : Int) (b.val : Int) = true) {y : Nat} (hy : y < 3) :
    (msgR Fs (a.val : Int) (b.val : Int))[y]? = some (msP (fun x => IntKind.i64.wrap (allT Fs (gOf Fs) a.val b.val x)) (fun x => fAtTo (btw Fs a.val b.val) (st2 a.val x b.val y)) 3) := by
  have hac := (tree_fst h).1.acy
  have hok := btw_ok9 h he
  have hbig : facOk 1000000000 (btw Fs a.val b.val) = true := by
    have := fac_nine (btw Fs a.val b.val)
    rw [hok, Bool.and_eq_true] at this
    exact this.1
  have hf : ∀ x, x < 3 → fAtTo (btw Fs a.val b.val) (st2 a.val x b.val y) = fAt (btw Fs a.val b.val) (st2 a.val x b.val y) := fun x hx => by
    unfold fAtTo
    rw [if_pos ⟨hbig, st2_bd80 a b ⟨x, hx⟩ ⟨y, hy⟩⟩]
  have hs : (sum3 fun x => allT Fs (gOf Fs) a.val b.val x * fAtTo (btw Fs a.val b.val) (st2 a.val x b.val y)) = msgT Fs (gOf Fs) a.val b.val y := by
    rw [msgT_eq hac (by omega) (by omega) he y]
    unfold sum3
    dsimp only
    rw [hf 0 (by decide), hf 1 (by decide), hf 2 (by decide)]
  rw [msP_three, hs]
  unfold msgR
  rw [if_pos hk, Int.toNat_natCast, Int.toNat_natCast]
  obtain rfl | rfl | rfl : y = 0 ∨ y = 1 ∨ y = 2 := by omega
  all_goals rfl
theorem Bk.but {w w' : World} {b : Nat} {v : Value} {Fs : List Fac} {vs : List Value} {S : Nat → Prop} (h : Bk w b v Fs vs) (hk : KeptBut w w' S) (hn : ∀ k, v.ownBlock = some k → ¬ S k) (hB : ∀ i, i < b → ¬ S i) (hs : b ≤ w.heap.size) : Bk w' b v Fs vs :=
  ⟨owns_but h.1 hk hn, fun j F hF => by
    obtain ⟨A1, n1, c1, A2, n2, c2, h1, h2, h3⟩ := h.2 j F hF
    exact ⟨A1, n1, c1, A2, n2, c2, h1, h2, h3.keep_ (hk.below hB hs)⟩⟩
/-- A factor in a cell of its own whose numbers are elder ones. -/
def PrW (w : World) (P B : Nat) (F : Fac) : Prop := ∃ (A1 : Option Addr) (n1 c1 : Nat) (A2 : Option Addr) (n2 c2 : Nat), Has w P 56 #[.slice A1 n1 c1, .slice A2 n2 c2] ∧ FacW w B A1 n1 A2 n2 F
theorem PrW.but {w w' : World} {P B : Nat} {F : Fac} {S : Nat → Prop} (h : PrW w P B F) (hk : KeptBut w w' S) (hP : ¬ S P) (hB : ∀ i, i < B → ¬ S i) (hs : B ≤ w.heap.size) : PrW w' P B F := by
  obtain ⟨A1, n1, c1, A2, n2, c2, h1, h2⟩ := h
  exact ⟨A1, n1, c1, A2, n2, c2, h1.but hk hP, h2.keep_ (hk.below hB hs)⟩
theorem PrW.below {w w' : World} {P B : Nat} {F : Fac} (h : PrW w P B F) (hb : Below w.heap.size w w') (hs : B ≤ w.heap.size) : PrW w' P B F :=
  h.but (KeptBut.of_below hb (fun _ => False)) (fun e => e) (fun _ _ e => e) hs
theorem PrW.put {w : World} {P B m1 d1 m2 d2 : Nat} {D1 D2 : Option Addr} {F G : Fac} (h : PrW w P B F) (hG : FacW w B D1 m1 D2 m2 G) (hB : B ≤ P) (hs : B ≤ w.heap.size) :
    PrW ((w.setCell ⟨P, 0, none⟩ (.slice D1 m1 d1)).setCell ⟨P, 1, none⟩ (.slice D2 m2 d2)) P B G ∧ KeptBut w ((w.setCell ⟨P, 0, none⟩ (.slice D1 m1 d1)).setCell ⟨P, 1, none⟩ (.slice D2 m2 d2)) (fun i => i = P) := by
  have hk : KeptBut w ((w.setCell ⟨P, 0, none⟩ (.slice D1 m1 d1)).setCell ⟨P, 1, none⟩ (.slice D2 m2 d2)) (fun i => i = P) :=
    KeptBut.put (S := fun i => i = P) (p := ⟨P, 1, none⟩) (KeptBut.put (S := fun i => i = P) (p := ⟨P, 0, none⟩) (KeptBut.refl w (fun i => i = P)) (fun _ => Eq.refl P) (.slice D1 m1 d1)) (fun _ => Eq.refl P) (.slice D2 m2 d2)
  obtain ⟨A1, n1, c1, A2, n2, c2, h1, h2⟩ := h
  have hh : Has ((w.setCell ⟨P, 0, none⟩ (.slice D1 m1 d1)).setCell ⟨P, 1, none⟩ (.slice D2 m2 d2)) P 56 #[.slice D1 m1 d1, .slice D2 m2 d2] := by
    have h9 := (h1.put 0 (.slice D1 m1 d1)).put 1 (.slice D2 m2 d2)
    simpa using h9
  exact ⟨⟨D1, m1, d1, D2, m2, d2, hh, hG.keep_ (hk.below (fun i hi e => by omega) hs)⟩, hk⟩
theorem prw_nil {w : World} {P B : Nat} (h : Has w P 56 #[.slice none 0 0, .slice none 0 0]) : PrW w P B ⟨[], []⟩ := ⟨none, 0, 0, none, 0, 0, h, ⟨rfl, fun h0 => by omega⟩, ⟨rfl, fun h0 => by omega⟩⟩
end Go.Proofs.Ytghkpmafocacoaa

namespace Go.Proofs.Ytghkpmafocacoaa
set_option maxRecDepth 100000
set_option linter.unusedVariables false
open Go.RowKit
theorem Rws.frm {w : World} {base : Nat} {v : Value} {ds : List Int} (h : Rws w base v ds) : ∃ A c, v = .slice A ds.length c ∧ Ils w w.heap.size A ds.length ds := by
  rcases h with ⟨rfl, rfl⟩ | ⟨g, off, T, cs, rfl, hg, hh, hc⟩
  · exact ⟨none, 0, rfl, rfl, fun h0 => by simp at h0⟩
  · exact ⟨_, _, rfl, rfl, fun _ => ⟨g, off, rfl, Has.lt hh, fun k d hk => (Has.cell hh _).trans (hc k d hk)⟩⟩
end Go.Proofs.Ytghkpmafocacoaa

namespace Go.Proofs.Ytghkpmafocacoaa
set_option maxRecDepth 100000
set_option linter.unusedVariables false
open Go.RowKit
theorem gdf_small {Fs : List Fac} (h : ∀ F ∈ Fs, GdF F) : smallF Fs := fun F hF => by
  have := h F hF
  unfold maxLen
  exact ⟨by have := this.1; omega, by have := this.2.1; omega⟩
end Go.Proofs.Ytghkpmafocacoaa

namespace Go.Proofs.Ytghkpmafocacoaa
set_option maxRecDepth 100000
set_option linter.unusedVariables false
open Go.RowKit
def prsL (Fs : List Fac) : List Int := (Fs.filter fun F => F.vs.length == 2).map fun F => setOf F.vs
def sa (s : Int) : Nat := (vAt (over s) 0).toNat
def sb (s : Int) : Nat := (vAt (over s) 1).toNat
def addS (g : Gr) (s : Int) : Option Gr := if g.root (sa s) = g.root (sb s) then none else some (g.put (sa s) (sb s))
def prG (ss : List Int) : Option Gr := ss.foldl (fun o s => o.bind fun g => addS g s) (some Gr.none_)
def lenOk (F : Fac) : Bool := inB (F.vs.length : Int) 1 2
theorem over_set {F : Fac} (h : facOk 9 F = true) : over (setOf F.vs) = F.vs := by
  obtain ⟨L, h1, h2, _⟩ := fac_set h
  rw [h2, h1]
theorem addF_pair {F : Fac} (h : facOk 9 F = true) (h2 : F.vs.length = 2) (g : Gr) : addF g F = addS g (setOf F.vs) := by
  unfold addF addS sa sb Fac.a Fac.b
  rw [over_set h, if_neg (by omega), if_pos h2]
theorem grL_fold : ∀ (l : List Fac) (o : Option Gr), (∀ F ∈ l, facOk 9 F = true) → l.all lenOk = true → l.foldl (fun o F => o.bind fun g => addF g F) o = (prsL l).foldl (fun o s => o.bind fun g => addS g s) o
  | [], o, _, _ => rfl
  | F :: r, o, h, hl => by
    rw [List.all_cons, Bool.and_eq_true] at hl
    have ih := fun o => grL_fold r o (fun G hG => h G (List.mem_cons_of_mem _ hG)) hl.2
    have h1 := inB_iff.1 hl.1
    unfold prsL
    rw [List.foldl_cons]
    by_cases h2 : F.vs.length = 2
    · rw [List.filter_cons_of_pos (by simp [h2]), List.map_cons, List.foldl_cons, ih]
      have e : (fun g => addF g F) = fun g => addS g (setOf F.vs) := funext fun g => addF_pair (h F List.mem_cons_self) h2 g
      rw [e]
      rfl
    · rw [List.filter_cons_of_neg (by simp [h2]), ih]
      have e : (fun g => addF g F) = fun g => some g := funext fun g => by unfold addF; rw [if_pos (by omega)]
      rw [e]
      cases o <;> rfl
theorem grL_bad : ∀ (l : List Fac) (o : Option Gr), l.all lenOk = false → l.foldl (fun o F => o.bind fun g => addF g F) o = none
  | [], _, h => by cases h
  | F :: r, o, h => by
    rw [List.foldl_cons]
    rw [List.all_cons, Bool.and_eq_false_iff] at h
    rcases h with h | h
    · have e : (fun g => addF g F) = fun _ => none := funext fun g => by
        unfold addF
        have h3 : ¬ inB (F.vs.length : Int) 1 2 = true := by unfold lenOk at h; rw [h]; decide
        rw [inB_iff] at h3
        rw [if_neg (by omega), if_neg (by omega)]
      rw [e]
      have e2 : (o.bind fun _ => (none : Option Gr)) = none := by cases o <;> rfl
      rw [e2]
      exact grL_none r
    · exact grL_bad r _ h
theorem grL_sets {Fs : List Fac} (h : ∀ F ∈ Fs, facOk 9 F = true) (hl : Fs.all lenOk = true) : grL Fs = prG (prsL Fs) := grL_fold Fs _ h hl
theorem prsL_take {Fs : List Fac} {k : Nat} {F : Fac} (h : Fs[k]? = some F) : prsL (Fs.take (k + 1)) = prsL (Fs.take k) ++ if F.vs.length = 2 then [setOf F.vs] else [] := by
  obtain ⟨hl, he⟩ := List.getElem?_eq_some_iff.1 h
  unfold prsL
  rw [List.take_succ_eq_append_getElem hl, he, List.filter_append, List.map_append]
  congr 1
  by_cases h2 : F.vs.length = 2
  · rw [if_pos h2, List.filter_cons_of_pos (by simp [h2])]; rfl
  · rw [if_neg h2, List.filter_cons_of_neg (by simp [h2])]; rfl
theorem prsL_len (Fs : List Fac) (k : Nat) : (prsL (Fs.take k)).length ≤ k := by
  unfold prsL
  rw [List.length_map]
  have h1 := List.length_filter_le (fun F : Fac => F.vs.length == 2) (Fs.take k)
  rw [List.length_take] at h1
  omega
theorem prsL_mem {Fs : List Fac} (h : ∀ F ∈ Fs, facOk 9 F = true) {s : Int} (hs : s ∈ prsL Fs) : (0 ≤ s ∧ s ≤ 15) ∧ ∃ F ∈ Fs, F.vs.length = 2 ∧ s = setOf F.vs ∧ ∃ a b : Fin 4, a ≠ b ∧ over s = [(a.val : Int), (b.val : Int)] ∧ sa s = a.val ∧ sb s = b.val := by
  unfold prsL at hs
  obtain ⟨F, hF, rfl⟩ := List.mem_map.1 hs
  obtain ⟨h1, h2⟩ := List.mem_filter.1 hF
  have h3 : F.vs.length = 2 := by simpa using h2
  have h4 := h F h1
  obtain ⟨L, e1, e2, _⟩ := fac_set h4
  obtain ⟨a, b, hab, hv, ha, hb⟩ := pair_two h4 h3
  refine ⟨by rw [e2]; omega, F, h1, h3, rfl, a, b, hab, by rw [over_set h4, hv], ?_, ?_⟩
  · unfold sa; rw [over_set h4]; exact ha
  · unfold sb; rw [over_set h4]; exact hb
set_option maxHeartbeats 1000000 in
theorem l10Pairs_any (A : Option Addr) (n c : Nat) (Fs : List Fac) (w : World) (h : FLst w w.heap.size A n Fs) (hn : n ≤ 1000) (hF : ∀ F ∈ Fs, facOk 9 F = true) :
    Calls Try.prog 86 #[.slice A n c] w (Wtsd w (prsL Fs)) := by
  have hB0 : Below w.heap.size w (w.alloc (.cells #[] 3)) := (Below.refl _ _).alloc (Nat.le_refl _) _
  have hN := Lib.hid (show IOwn (w.alloc (.cells #[] 3)) w.heap.size (.slice (some ⟨w.heap.size, 0, none⟩) 0 0) [] from
    ⟨rfl, .inr ⟨w.heap.size, 0, #[], rfl, Nat.le_refl _, Has.new w _ _, Nat.le_refl _, Nat.zero_le _, rfl, rfl⟩⟩)
  obtain ⟨i0, hi0, hz0, hz1', hz2'⟩ := info_parts info_int
  have hI := Lib.hid h
  have hl := h.1
  have hFh := Lib.hid hF
  clear h hF
  go_enter Try.func86, Try.ntmps86
  go_wp2_with fail
  go_loopg [3, 4] n (fun gn o v wr => ∃ k : Nat, k ≤ n ∧ gn = n - k ∧ v = .int .i64 k ∧ IOwn wr w.heap.size o (prsL (Fs.take k)) ∧ Below w.heap.size w wr)
  case atStart => exact ⟨0, Nat.zero_le _, rfl, rfl, hN.out, hB0⟩
  case round =>
    obtain ⟨k, hk, hgn, rfl, hO, hb⟩ := hrel
    have hgk : gk = n - k := hgn
    obtain ⟨Ao, co, hvo, _, _⟩ := hO.form
    subst hvo
    have hz := hb.size
    have hOh := Lib.hid hO
    have hbh := Lib.hid hb
    have hol : (prsL (Fs.take k)).length ≤ 1000 := by have := prsL_len Fs k; omega
    clear hgn hO hb hN hB0
    by_cases hlt : k < n
    · obtain ⟨gl, off, F, B1, m1, e1, B2, m2, e2, rfl, hgl, hFk, cl1, cl2, hFW⟩ := (hI.out.below hbh.out).at_ hlt
      have hk0 : (0 : Int) ≤ (k : Int) := by omega
      have hk1 : (k : Int) < (n : Int) := by omega
      have hst := Lib.hid (prsL_take hFk)
      have hok := hFh.out F (List.mem_of_getElem? hFk)
      obtain ⟨q1, q2, q3, q4, q5⟩ := fac_parts hok
      have hm1 := hFW.1.1
      have hm4 : m1 ≤ 4 := by omega
      have cS := Lib.hid (fun wx hx => l8Set_any B1 m1 e1 F.vs wx hx (by unfold maxLen; omega) q5)
      have hVw := Lib.hid (hFW.1.more hz)
      clear hFk hok q1 q2 q3 q4 q5 hFW
      by_cases h2 : m1 = 2
      · subst h2
        obtain ⟨s, hs⟩ : ∃ s, setOf F.vs = s := ⟨_, rfl⟩
        rw [hs] at cS hst
        have hE := Lib.hid (show prsL (Fs.take (k + 1)) = prsL (Fs.take k) ++ [s] by rw [hst.out, if_pos hm1])
        have hO3 := Lib.hid (hOh.out.alloc (.cells #[.int .i64 s] 3))
        have hnw := Lib.hid (new_one wr (.int .i64 s) 3)
        have hB3 := Lib.hid (hbh.out.alloc hz (.cells #[.int .i64 s] 3))
        clear hs hst hm1
        generalize prsL (Fs.take k) = ds at *
        go_wp2_with (first
          | (go_at_call 138; refine (cS.out wr hVw.out).mono ?_; rintro e w' ⟨rfl, rfl⟩)
          | (at_builtin; refine wpList_append_lies _ rfl (.tmp 19) (.tmp 26) 31 rfl w.heap.size 3 i0 _ 1 8 Try.underlying31 hi0 hz0 hz1' hz2' rfl (by decide) (.slice Ao ds.length co) ds.length (ints ds) rfl (by exact hO3.out) ⟨wr.heap.size, 0, none⟩ 1 1 [.int .i64 s] rfl rfl (by exact hnw.out) (by simp [Value.oneCell']) (by omega) (by unfold maxLen; omega) (by omega) (by exact hB3.out.size) (wr.heap.size + 1) (by simp) ?_; intro gr cr2 w4 hown4 hgrow4 hat4 hlt4))
        have hA := Lib.hid (IOwn.append_ (news := [s]) hO3.out hown4 hgrow4 hB3.out (by exact hB3.out.size))
        clear hown4 hgrow4 hat4
        go_wp2_with fail
        go_roundg (n - (k + 1))
        case measure => omega
        case rel => exact ⟨k + 1, by omega, rfl, by go_num, by rw [hE.out]; exact hA.out.1, hA.out.2⟩
      · have hE := Lib.hid (show prsL (Fs.take (k + 1)) = prsL (Fs.take k) by rw [hst.out, if_neg (by omega), List.append_nil])
        have hm2 : ((m1 : Int) == 2) = false := by rw [beq_eq_false_iff_ne]; omega
        clear hst hm1
        go_wp2_with fail
        go_roundg (n - (k + 1))
        case measure => omega
        case rel => exact ⟨k + 1, by omega, rfl, by go_num, by rw [hE.out]; exact hOh.out, hbh.out⟩
    · obtain rfl : k = n := by omega
      have hfull : Fs.take k = Fs := List.take_of_length_le (by omega)
      have hFin := Lib.hid (show Wtsd w (prsL Fs) (.returned (.slice Ao (prsL (Fs.take k)).length co)) wr from ⟨_, rfl, by have := hOh.out; rw [hfull] at this ⊢; exact this, hbh.out⟩)
      clear hOh hbh hfull
      go_wp2_with fail
      go_ret
      exact hFin.out
end Go.Proofs.Ytghkpmafocacoaa
