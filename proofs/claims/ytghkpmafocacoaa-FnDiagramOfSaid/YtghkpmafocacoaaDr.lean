/- Drawn arguments of chapter 1 that are statements and numbers. Drawn programs. Drawn programs, one in twenty spoilt. -/
import Derived.Test.YtghkpmafocacoaaRd
import Derived.Test.YtghkpmafocacoaaUnP
namespace Go.Proofs.Ytghkpmafocacoaa
set_option maxRecDepth 100000
open Go.RowKit

theorem Byt.more {w : World} {B B' : Nat} {A : Option Addr} {n : Nat} (h : Byt w B A n) (hB : B ≤ B') : Byt w B' A n := fun hn => by
  obtain ⟨g, off, e, hg, hc⟩ := h hn
  exact ⟨g, off, e, by omega, hc⟩

def StD (w : World) (e : Ending) (w' : World) : Prop :=
  ∃ (k a b d u v x : Int), e = .returned (.agg #[.int .i64 k, .int .i64 a, .int .i64 b, .int .i64 d, .int .i64 u, .int .i64 v, .int .i64 x]) ∧ Below w.heap.size w w'

def NumsD (w : World) (e : Ending) (w' : World) : Prop := ∃ s v x : Int, e = .returned (.tuple #[.int .i64 s, .int .i64 v, .int .i64 x]) ∧ Below w.heap.size w w'

end Go.Proofs.Ytghkpmafocacoaa

namespace Go.Proofs.Ytghkpmafocacoaa
set_option maxRecDepth 100000
open Go.RowKit

theorem Chg.grown {a b c : World} {R : Nat} {row : Option Nat} (h : Chg a b R) (hg : b.grownBy c row) (hr : ∀ k, row = some k → a.heap.size ≤ k) : Chg a c R :=
  ⟨hg.os.trans h.os, hg.tape.trans h.tape, hg.output.trans h.output, Nat.le_trans h.size hg.size,
    fun i hi hne => (hg.block i (Nat.lt_of_lt_of_le hi h.size) (fun e => by have := hr i e.symm; omega)).trans (h.block i hi hne)⟩
theorem Rdr.grown {w w' : World} {B R : Nat} {A : Option Addr} {n c p : Nat} {row : Option Nat} (h : Rdr w B R A n c p) (hg : w.grownBy w' row) (hr : ∀ k, row = some k → B ≤ k ∧ k ≠ R) (hB : B ≤ w.heap.size) : Rdr w' B R A n c p :=
  ⟨(hg.block R h.lt (fun e => (hr R e.symm).2 rfl)).trans h.1, h.2.1, h.2.2.keep ((Below.refl B w).grown hg hB (fun k hk => (hr k hk).1))⟩
theorem Own.chg {w w' : World} {base R : Nat} {v : Value} {os : List St} (h : Own w base v os) (hc : Chg w w' R) (hR : R < base) : Own w' base v os := by
  refine World.ownsRow.kept h hc ?_
  cases hv : v.ownBlock with
  | none => exact .inl rfl
  | some k =>
    refine .inr fun e => ?_
    have h1 := (World.ownsRow.lt h k hv).1
    injection e with e
    omega

/-- Statements in a new block of their own. -/
theorem new_flat (w : World) (arr : Array Value) (qs : List St) (h : arr.toList = flat qs) : ∀ j u, (flat qs)[j]? = some u → (w.alloc (.cells arr 116)).cell? ((⟨w.heap.size, 0, none⟩ : Addr).add j) = some u := by
  intro j u hu
  have ha : ((⟨w.heap.size, 0, none⟩ : Addr).add j) = ⟨w.heap.size, j, none⟩ := by
    unfold Addr.add
    split
    · rename_i h0; rw [h0]
    · simp
  rw [ha, (Has.new w _ _).cell j, ← Array.getElem?_toList, h]
  exact hu

def St.put (s : St) : Nat → Int → St
  | 0, x => { s with k := x }
  | 1, x => { s with a := x }
  | 2, x => { s with b := x }
  | 3, x => { s with c := x }
  | 4, x => { s with u := x }
  | 5, x => { s with v := x }
  | _, x => { s with x := x }
theorem St.put_cells (s : St) (x : Int) {o : Nat} (h : o < 7) : (s.put o x).cells = s.cells.set o (.int .i64 x) := by
  obtain rfl | rfl | rfl | rfl | rfl | rfl | rfl : o = 0 ∨ o = 1 ∨ o = 2 ∨ o = 3 ∨ o = 4 ∨ o = 5 ∨ o = 6 := by omega
  all_goals rfl
theorem flat_num (x : Int) : ∀ (os : List St) (o : Nat), ∃ os', os'.length = os.length ∧ flat os' = (flat os).set o (.int .i64 x)
  | [], o => ⟨[], rfl, by simp [flat]⟩
  | s :: r, o => by
    have e : ∀ (q : St) (l : List St), flat (q :: l) = q.cells ++ flat l := fun _ _ => rfl
    have hl : s.cells.length = 7 := rfl
    by_cases h : o < 7
    · refine ⟨s.put o x :: r, rfl, ?_⟩
      rw [e, e, List.set_append_left _ _ (by omega), St.put_cells s x h]
    · obtain ⟨r', h1, h2⟩ := flat_num x r (o - 7)
      refine ⟨s :: r', by simp [h1], ?_⟩
      rw [e, e, h2, List.set_append_right _ _ (by omega), hl]

/-- One cell of what a call owns, overwritten by a number: it still owns as many statements. -/
theorem own_put {w : World} {base g n cap : Nat} {os : List St} (h : Own w base (.slice (some ⟨g, 0, none⟩) n cap) os) (o : Nat) (x : Int) : ∃ os', os'.length = os.length ∧ Own (w.setCell ⟨g, o, none⟩ (.int .i64 x)) base (.slice (some ⟨g, 0, none⟩) n cap) os' := by
  rcases h.2 with ⟨hv, _⟩ | ⟨g', cap', cur, hv, hg, hh, h1, h2, h3, h4⟩
  · injection hv with hv _ _
    cases hv
  · have e1 : g = g' := by injection hv with hv _ _; injection hv with hv; injection hv
    subst e1
    obtain ⟨os', hl, hf⟩ := flat_num x os o
    refine ⟨os', hl, by rw [flat_length], .inr ⟨g, cap', cur.setIfInBounds o (.int .i64 x), by rw [hl]; exact hv, hg, ?_, by rw [hl]; exact h1, h2, by simpa using h3, ?_⟩⟩
    · exact Has.put (t := 116) (cs := cur) hh o _
    · rw [hl, hf, Array.toList_setIfInBounds, List.take_set, h4]

/-- What a call owns and is not empty lies in a block that is known. -/
theorem own_has {w : World} {base n cap : Nat} {A : Option Addr} {os : List St} (h : Own w base (.slice A n cap) os) (h0 : 0 < os.length) : ∃ g cur, A = some ⟨g, 0, none⟩ ∧ base ≤ g ∧ Has w g 116 cur ∧ os.length * 7 ≤ cur.size := by
  rcases h.2 with ⟨_, h1⟩ | ⟨g, cap', cur, hv, hg, hh, h1, h2, h3, h4⟩
  · omega
  · injection hv with e1 _ _
    exact ⟨g, cur, e1, hg, hh, by rw [h3]; omega⟩

def Prgd (w : World) (B R : Nat) (A : Option Addr) (n c p : Nat) (e : Ending) (w' : World) : Prop :=
  ∃ (v : Value) (os : List St) (p' : Nat), e = .returned v ∧ Own w' w.heap.size v os ∧ 1 ≤ os.length ∧ os.length ≤ 10 ∧ p' ≤ p + 200 ∧ Rdr w' B R A n c p' ∧ Chg w w' R

set_option maxHeartbeats 4000000 in
theorem l1Draw_any (R : Nat) (A : Option Addr) (n c p B : Nat) (m : Int) (w : World) (h : Rdr w B R A n c p) (hp : p ≤ 800000) (hn : n ≤ 2000) (hB : B ≤ w.heap.size) :
    Calls Try.prog 133 #[.pointer (some ⟨R, 0, none⟩), .int .i64 m] w (Prgd w B R A n c p) := by
  have hlt := h.lt
  obtain ⟨i0, hi0, hz0, hz1', hz2'⟩ := info_parts info_stmt
  have hown0 : Own (w.alloc (.cells #[] 116)) w.heap.size (.slice (some ⟨w.heap.size, 0, none⟩) 0 0) [] := World.ownsRow_made w #[] 0 (Nat.le_refl _) (by simp [maxLen]) rfl
  have hOwn0 := Lib.hid hown0
  clear hown0
  go_enter Try.func133, Try.ntmps133
  go_wp2_with fail
  refine (pick_any R A n c p B _ _ (h.alloc hB _) (by omega) hn (by omega)).mono ?_
  rintro e w1 ⟨v1, rfl, a0, a1, hr1, hc1⟩
  have hO1 := Lib.hid (hOwn0.out.chg hc1 hlt)
  have hC1 := ((Chg.refl w R).alloc (.cells #[] 116)).trans hc1
  clear hc1 h hOwn0
  obtain ⟨q1, rfl⟩ : ∃ q : Nat, v1 = q := ⟨v1.toNat, by omega⟩
  go_wp2_with fail
  go_loopw [5, 6, 7] (fun l y i wr => ∃ (j : Nat) (os : List St) (many : Int) (p' : Nat), j ≤ 7 ∧ i = .int .i64 j ∧ y = .int .i64 many ∧ 0 ≤ many ∧ many + j ≤ 7 ∧ os.length + j ≤ 7 ∧ 1 ≤ os.length + j ∧ p' + 13 * j ≤ p + 100 ∧ Own wr w.heap.size l os ∧ Rdr wr B R A n c p' ∧ Chg w wr R) (fun _ _ i _ => (intOf i).toNat)
  case atStart => exact ⟨q1 + 1, [], 0, p + 1, by omega, by go_num, rfl, by omega, by omega, by simp; omega, by simp, by omega, hO1.out, hr1, hC1⟩
  case round =>
    obtain ⟨j, os, many, p', hj, rfl, rfl, hy0, hy1, hl0, hl1, hpp, hown, hr, hC⟩ := hrel
    have hOw := Lib.hid hown
    obtain ⟨A', c', hv, hlc, hcm⟩ := hown.form
    subst hv
    clear hown
    have hz := hC.size
    by_cases hj0 : 0 < j
    · go_wp2_with fail
      refine (l1Stmt_any R A n c p' B _ hr (by omega) hn (by omega)).mono ?_
      rintro e w2 ⟨k, a, b, d, u, v, x, p2, rfl, hp2, hr2, hc2⟩
      have hO2 := Lib.hid (hOw.out.chg hc2 hlt)
      have hC2 := hC.trans hc2
      have hz2 := hC2.size
      have hlt2 := hr2.lt
      clear hc2 hr hC
      by_cases hk2 : k = 2 ∨ k = 3
      · have hkd : ((k == 2) = true) ∨ ((k == 2) = false ∧ (k == 3) = true) := by rcases hk2 with rfl | rfl <;> simp
        clear hk2
        by_cases hmm : many = m
        · have hmm' : (many == m) = true := by simp [hmm]
          clear hmm
          rcases hkd with hka | ⟨hka, hkb⟩
          all_goals
            have hO3 := Lib.hid ((hO2.out.alloc (.cells #[.int .i64 1, .int .i64 1, .int .i64 0, .int .i64 0, .int .i64 0, .int .i64 0, .int .i64 0] 116)).alloc (.cells #[.int .i64 1, .int .i64 1, .int .i64 0, .int .i64 0, .int .i64 0, .int .i64 0, .int .i64 0] 116))
            have hR3 := (hr2.alloc (by omega) (.cells #[.int .i64 1, .int .i64 1, .int .i64 0, .int .i64 0, .int .i64 0, .int .i64 0, .int .i64 0] 116)).alloc (by simp; omega) (.cells #[.int .i64 1, .int .i64 1, .int .i64 0, .int .i64 0, .int .i64 0, .int .i64 0, .int .i64 0] 116)
            have hC3 := (hC2.alloc (.cells #[.int .i64 1, .int .i64 1, .int .i64 0, .int .i64 0, .int .i64 0, .int .i64 0, .int .i64 0] 116)).alloc (.cells #[.int .i64 1, .int .i64 1, .int .i64 0, .int .i64 0, .int .i64 0, .int .i64 0, .int .i64 0] 116)
            have hNew := Lib.hid (new_stmt (w2.alloc (.cells #[.int .i64 1, .int .i64 1, .int .i64 0, .int .i64 0, .int .i64 0, .int .i64 0, .int .i64 0] 116)) (⟨1, 1, 0, 0, 0, 0, 0⟩ : St))
            go_wp2_with (at_builtin; refine wpList_append_own _ rfl (.tmp 33) (.tmp 35) 65 rfl w.heap.size 116 i0 _ 7 56 Try.underlying65 hi0 hz0 hz1' hz2' rfl (by decide) (.slice A' os.length c') _ _ rfl hO3.out ⟨w2.heap.size + 1, 0, none⟩ 1 1 (flat [(⟨1, 1, 0, 0, 0, 0, 0⟩ : St)]) ?hx ?c1 ?c2 ?c3 ?c4 ?c5 ?c6 ?_)
            case hx => first | rfl | simp [Act.eval]
            case c1 => rfl
            case c2 => simpa using hNew.out
            case c3 => exact flat_one _
            case c4 => unfold maxLen; omega
            case c5 => omega
            case c6 => (simp; omega)
            intro v' w' hown' hgrow _
            have hrow : ∀ k, (Value.slice A' os.length c').ownBlock = some k → w.heap.size ≤ k := fun k hk => (World.ownsRow.lt hO3.out k hk).1
            have hN1 := Lib.hid (hO3.out.append_ (w0 := (w2.alloc (.cells #[.int .i64 1, .int .i64 1, .int .i64 0, .int .i64 0, .int .i64 0, .int .i64 0, .int .i64 0] 116)).alloc (.cells #[.int .i64 1, .int .i64 1, .int .i64 0, .int .i64 0, .int .i64 0, .int .i64 0, .int .i64 0] 116)) (news := [(⟨1, 1, 0, 0, 0, 0, 0⟩ : St)]) hown' hgrow (Below.refl _ _) (by simp; omega)).1
            have hN2 := hR3.grown hgrow (fun k hk => by have := hrow k hk; omega) (by simp; omega)
            have hN3 := hC3.grown hgrow hrow
            clear hgrow hown' hrow hO3 hR3 hC3 hNew
            go_wp2
            go_roundw
            case rel => exact ⟨j - 1, _, many, p2, by omega, by first | go_num | exact congrArg (Value.int .i64) (by omega), rfl, by omega, by omega, by rw [List.length_append]; show os.length + 1 + (j - 1) ≤ 7; omega, by rw [List.length_append]; show 1 ≤ os.length + 1 + (j - 1); omega, by omega, hN1.out, hN2, hN3⟩
            case measure => (simp [intOf]; try omega)
        · have hmm' : (many == m) = false := by simp [hmm]
          clear hmm
          rcases hkd with hka | ⟨hka, hkb⟩
          all_goals
            have hO3 := Lib.hid ((hO2.out.alloc (.cells #[.int .i64 k, .int .i64 a, .int .i64 b, .int .i64 d, .int .i64 u, .int .i64 v, .int .i64 x] 116)).alloc (.cells #[.int .i64 k, .int .i64 a, .int .i64 b, .int .i64 d, .int .i64 u, .int .i64 v, .int .i64 x] 116))
            have hR3 := (hr2.alloc (by omega) (.cells #[.int .i64 k, .int .i64 a, .int .i64 b, .int .i64 d, .int .i64 u, .int .i64 v, .int .i64 x] 116)).alloc (by simp; omega) (.cells #[.int .i64 k, .int .i64 a, .int .i64 b, .int .i64 d, .int .i64 u, .int .i64 v, .int .i64 x] 116)
            have hC3 := (hC2.alloc (.cells #[.int .i64 k, .int .i64 a, .int .i64 b, .int .i64 d, .int .i64 u, .int .i64 v, .int .i64 x] 116)).alloc (.cells #[.int .i64 k, .int .i64 a, .int .i64 b, .int .i64 d, .int .i64 u, .int .i64 v, .int .i64 x] 116)
            have hNew := Lib.hid (new_stmt (w2.alloc (.cells #[.int .i64 k, .int .i64 a, .int .i64 b, .int .i64 d, .int .i64 u, .int .i64 v, .int .i64 x] 116)) (⟨k, a, b, d, u, v, x⟩ : St))
            go_wp2_with (at_builtin; refine wpList_append_own _ rfl (.tmp 33) (.tmp 35) 65 rfl w.heap.size 116 i0 _ 7 56 Try.underlying65 hi0 hz0 hz1' hz2' rfl (by decide) (.slice A' os.length c') _ _ rfl hO3.out ⟨w2.heap.size + 1, 0, none⟩ 1 1 (flat [(⟨k, a, b, d, u, v, x⟩ : St)]) ?hx ?c1 ?c2 ?c3 ?c4 ?c5 ?c6 ?_)
            case hx => first | rfl | simp [Act.eval]
            case c1 => rfl
            case c2 => simpa using hNew.out
            case c3 => exact flat_one _
            case c4 => unfold maxLen; omega
            case c5 => omega
            case c6 => (simp; omega)
            intro v' w' hown' hgrow _
            have hrow : ∀ k, (Value.slice A' os.length c').ownBlock = some k → w.heap.size ≤ k := fun k hk => (World.ownsRow.lt hO3.out k hk).1
            have hN1 := Lib.hid (hO3.out.append_ (w0 := (w2.alloc (.cells #[.int .i64 k, .int .i64 a, .int .i64 b, .int .i64 d, .int .i64 u, .int .i64 v, .int .i64 x] 116)).alloc (.cells #[.int .i64 k, .int .i64 a, .int .i64 b, .int .i64 d, .int .i64 u, .int .i64 v, .int .i64 x] 116)) (news := [(⟨k, a, b, d, u, v, x⟩ : St)]) hown' hgrow (Below.refl _ _) (by simp; omega)).1
            have hN2 := hR3.grown hgrow (fun k hk => by have := hrow k hk; omega) (by simp; omega)
            have hN3 := hC3.grown hgrow hrow
            clear hgrow hown' hrow hO3 hR3 hC3 hNew
            go_wp2
            go_roundw
            case rel => exact ⟨j - 1, _, many + 1, p2, by omega, by first | go_num | exact congrArg (Value.int .i64) (by omega), rfl, by omega, by omega, by rw [List.length_append]; show os.length + 1 + (j - 1) ≤ 7; omega, by rw [List.length_append]; show 1 ≤ os.length + 1 + (j - 1); omega, by omega, hN1.out, hN2, hN3⟩
            case measure => (simp [intOf]; try omega)
      · have hka : (k == 2) = false := by simp; omega
        have hkb : (k == 3) = false := by simp; omega
        clear hk2
        have hO3 := Lib.hid ((hO2.out.alloc (.cells #[.int .i64 k, .int .i64 a, .int .i64 b, .int .i64 d, .int .i64 u, .int .i64 v, .int .i64 x] 116)).alloc (.cells #[.int .i64 k, .int .i64 a, .int .i64 b, .int .i64 d, .int .i64 u, .int .i64 v, .int .i64 x] 116))
        have hR3 := (hr2.alloc (by omega) (.cells #[.int .i64 k, .int .i64 a, .int .i64 b, .int .i64 d, .int .i64 u, .int .i64 v, .int .i64 x] 116)).alloc (by simp; omega) (.cells #[.int .i64 k, .int .i64 a, .int .i64 b, .int .i64 d, .int .i64 u, .int .i64 v, .int .i64 x] 116)
        have hC3 := (hC2.alloc (.cells #[.int .i64 k, .int .i64 a, .int .i64 b, .int .i64 d, .int .i64 u, .int .i64 v, .int .i64 x] 116)).alloc (.cells #[.int .i64 k, .int .i64 a, .int .i64 b, .int .i64 d, .int .i64 u, .int .i64 v, .int .i64 x] 116)
        have hNew := Lib.hid (new_stmt (w2.alloc (.cells #[.int .i64 k, .int .i64 a, .int .i64 b, .int .i64 d, .int .i64 u, .int .i64 v, .int .i64 x] 116)) (⟨k, a, b, d, u, v, x⟩ : St))
        go_wp2_with (at_builtin; refine wpList_append_own _ rfl (.tmp 33) (.tmp 35) 65 rfl w.heap.size 116 i0 _ 7 56 Try.underlying65 hi0 hz0 hz1' hz2' rfl (by decide) (.slice A' os.length c') _ _ rfl hO3.out ⟨w2.heap.size + 1, 0, none⟩ 1 1 (flat [(⟨k, a, b, d, u, v, x⟩ : St)]) ?hx ?c1 ?c2 ?c3 ?c4 ?c5 ?c6 ?_)
        case hx => first | rfl | simp [Act.eval]
        case c1 => rfl
        case c2 => simpa using hNew.out
        case c3 => exact flat_one _
        case c4 => unfold maxLen; omega
        case c5 => omega
        case c6 => (simp; omega)
        intro v' w' hown' hgrow _
        have hrow : ∀ k, (Value.slice A' os.length c').ownBlock = some k → w.heap.size ≤ k := fun k hk => (World.ownsRow.lt hO3.out k hk).1
        have hN1 := Lib.hid (hO3.out.append_ (w0 := (w2.alloc (.cells #[.int .i64 k, .int .i64 a, .int .i64 b, .int .i64 d, .int .i64 u, .int .i64 v, .int .i64 x] 116)).alloc (.cells #[.int .i64 k, .int .i64 a, .int .i64 b, .int .i64 d, .int .i64 u, .int .i64 v, .int .i64 x] 116)) (news := [(⟨k, a, b, d, u, v, x⟩ : St)]) hown' hgrow (Below.refl _ _) (by simp; omega)).1
        have hN2 := hR3.grown hgrow (fun k hk => by have := hrow k hk; omega) (by simp; omega)
        have hN3 := hC3.grown hgrow hrow
        clear hgrow hown' hrow hO3 hR3 hC3 hNew
        go_wp2
        go_roundw
        case rel => exact ⟨j - 1, _, many, p2, by omega, by first | go_num | exact congrArg (Value.int .i64) (by omega), rfl, by omega, by omega, by rw [List.length_append]; show os.length + 1 + (j - 1) ≤ 7; omega, by rw [List.length_append]; show 1 ≤ os.length + 1 + (j - 1); omega, by omega, hN1.out, hN2, hN3⟩
        case measure => (simp [intOf]; try omega)
    · obtain rfl : j = 0 := by omega
      have hfin : ∀ (vv : Value) (qs : List St) (pp : Nat) (wz : World), Own wz w.heap.size vv qs → 1 ≤ qs.length → qs.length ≤ 10 → pp ≤ p + 200 → Rdr wz B R A n c pp → Chg w wz R → Prgd w B R A n c p (.returned vv) wz :=
        fun vv qs pp wz h1 h2 h3 h4 h5 h6 => ⟨vv, qs, pp, rfl, h1, h2, h3, h4, h5, h6⟩
      have hFin := Lib.hid hfin
      clear hfin
      by_cases hmy : many < m
      · go_wp2_with fail
        refine (pick_any R A n c p' B _ _ hr (by omega) hn (by omega)).mono ?_
        rintro e w2 ⟨v2, rfl, b0, b1, hr2, hc2⟩
        have hO2 := Lib.hid (hOw.out.chg hc2 hlt)
        have hC2 := hC.trans hc2
        have hz2 := hC2.size
        clear hc2 hr hC
        by_cases hv2 : v2 = 0
        · subst hv2
          go_wp2_with fail
          refine (pick_any R A n c _ B _ _ hr2 (by omega) hn (by omega)).mono ?_
          rintro e w3 ⟨v3, rfl, d0, d1, hr3, hc3⟩
          have hO3 := Lib.hid (hO2.out.chg hc3 hlt)
          have hC3 := hC2.trans hc3
          clear hc3 hr2 hC2 hO2
          go_wp2_with fail
          refine (pick_any R A n c _ B _ _ hr3 (by omega) hn (by omega)).mono ?_
          rintro e w4 ⟨v4, rfl, e0, e1, hr4, hc4⟩
          have hO4 := Lib.hid (hO3.out.chg hc4 hlt)
          have hC4 := hC3.trans hc4
          clear hc4 hr3 hC3 hO3
          go_wp2_with fail
          refine (pick_any R A n c _ B _ _ hr4 (by omega) hn (by omega)).mono ?_
          rintro e w5 ⟨v5, rfl, f0, f1, hr5, hc5⟩
          have hO5 := Lib.hid (hO4.out.chg hc5 hlt)
          have hC5 := hC4.trans hc5
          have hs5 := hC5.size
          clear hc5 hr4 hC4 hO4
          go_wp2_with fail
          refine (l1Row_any R A n c _ B _ hr5 (by omega) hn (by omega)).mono ?_
          rintro e w6 ⟨ra, rb, rc, p6, rfl, hp6, hr6, hc6⟩
          have hO6 := Lib.hid (hO5.out.chg hc6 hlt)
          have hC6 := hC5.trans hc6
          have hs6 := hC6.size
          have hlt6 := hr6.lt
          clear hc6 hr5 hC5 hO5
          have hO7 := Lib.hid (hO6.out.alloc (.cells #[.int .i64 7, .int .i64 0, .int .i64 2, .int .i64 v3, .int .i64 0, .int .i64 0, .int .i64 0, .int .i64 1, .int .i64 v4, .int .i64 2, .int .i64 0, .int .i64 0, .int .i64 0, .int .i64 0, .int .i64 4, .int .i64 v5, .int .i64 0, .int .i64 0, .int .i64 ra, .int .i64 rb, .int .i64 rc] 116))
          have hR7 := hr6.alloc (by omega) (.cells #[.int .i64 7, .int .i64 0, .int .i64 2, .int .i64 v3, .int .i64 0, .int .i64 0, .int .i64 0, .int .i64 1, .int .i64 v4, .int .i64 2, .int .i64 0, .int .i64 0, .int .i64 0, .int .i64 0, .int .i64 4, .int .i64 v5, .int .i64 0, .int .i64 0, .int .i64 ra, .int .i64 rb, .int .i64 rc] 116)
          have hC7 := hC6.alloc (.cells #[.int .i64 7, .int .i64 0, .int .i64 2, .int .i64 v3, .int .i64 0, .int .i64 0, .int .i64 0, .int .i64 1, .int .i64 v4, .int .i64 2, .int .i64 0, .int .i64 0, .int .i64 0, .int .i64 0, .int .i64 4, .int .i64 v5, .int .i64 0, .int .i64 0, .int .i64 ra, .int .i64 rb, .int .i64 rc] 116)
          have hNew := Lib.hid (new_flat w6 #[.int .i64 7, .int .i64 0, .int .i64 2, .int .i64 v3, .int .i64 0, .int .i64 0, .int .i64 0, .int .i64 1, .int .i64 v4, .int .i64 2, .int .i64 0, .int .i64 0, .int .i64 0, .int .i64 0, .int .i64 4, .int .i64 v5, .int .i64 0, .int .i64 0, .int .i64 ra, .int .i64 rb, .int .i64 rc] ([(⟨7, 0, 2, v3, 0, 0, 0⟩ : St), ⟨1, v4, 2, 0, 0, 0, 0⟩, ⟨4, v5, 0, 0, ra, rb, rc⟩]) rfl)
          go_wp2_with (at_builtin; refine wpList_append_own _ rfl (.tmp 45) (.tmp 57) 65 rfl w.heap.size 116 i0 _ 7 56 Try.underlying65 hi0 hz0 hz1' hz2' rfl (by decide) (.slice A' os.length c') _ _ rfl hO7.out ⟨w6.heap.size, 0, none⟩ 3 3 (flat ([(⟨7, 0, 2, v3, 0, 0, 0⟩ : St), ⟨1, v4, 2, 0, 0, 0, 0⟩, ⟨4, v5, 0, 0, ra, rb, rc⟩])) ?hx ?c1 ?c2 ?c3 ?c4 ?c5 ?c6 ?_)
          case hx => first | rfl | simp [Act.eval]
          case c1 => rfl
          case c2 => exact hNew.out
          case c3 => exact flat_one _
          case c4 => unfold maxLen; omega
          case c5 => omega
          case c6 => (simp; omega)
          intro v' w7 hown' hgrow _
          have hrow : ∀ k, (Value.slice A' os.length c').ownBlock = some k → w.heap.size ≤ k := fun k hk => (World.ownsRow.lt hO7.out k hk).1
          have hN1 := (hO7.out.append_ (w0 := w6.alloc (.cells #[.int .i64 7, .int .i64 0, .int .i64 2, .int .i64 v3, .int .i64 0, .int .i64 0, .int .i64 0, .int .i64 1, .int .i64 v4, .int .i64 2, .int .i64 0, .int .i64 0, .int .i64 0, .int .i64 0, .int .i64 4, .int .i64 v5, .int .i64 0, .int .i64 0, .int .i64 ra, .int .i64 rb, .int .i64 rc] 116)) (news := ([(⟨7, 0, 2, v3, 0, 0, 0⟩ : St), ⟨1, v4, 2, 0, 0, 0, 0⟩, ⟨4, v5, 0, 0, ra, rb, rc⟩])) hown' hgrow (Below.refl _ _) (by simp; omega)).1
          have hN2 := hR7.grown hgrow (fun k hk => by have := hrow k hk; omega) (by simp; omega)
          have hN3 := hC7.grown hgrow hrow
          have hql : (os ++ ([(⟨7, 0, 2, v3, 0, 0, 0⟩ : St), ⟨1, v4, 2, 0, 0, 0, 0⟩, ⟨4, v5, 0, 0, ra, rb, rc⟩])).length = os.length + 3 := by rw [List.length_append]; rfl
          clear hgrow hown' hrow hO7 hR7 hC7 hNew hO6 hr6 hC6
          generalize os ++ ([(⟨7, 0, 2, v3, 0, 0, 0⟩ : St), ⟨1, v4, 2, 0, 0, 0, 0⟩, ⟨4, v5, 0, 0, ra, rb, rc⟩]) = os2 at hN1 hql
          have hq10 : os2.length ≤ 10 := by omega
          have hq3 : 3 ≤ os2.length := by omega
          clear hql
          obtain ⟨A3, c3, hv3, hlc3, hcm3⟩ := hN1.form
          subst hv3
          have hO8 := Lib.hid hN1
          clear hN1
          by_cases hm3 : many + 3 ≤ m
          · go_wp2_with fail
            refine (l1Row_any R A n c _ B _ hN2 (by omega) hn (by have := hN3.size; omega)).mono ?_
            rintro e w9 ⟨xa, xb, xc, p9, rfl, hp9, hr9, hc9⟩
            have hO9 := hO8.out.chg hc9 hlt
            have hC9 := hN3.trans hc9
            clear hc9 hN2 hN3
            obtain ⟨g, cur, rfl, hgb, hHas, hcs⟩ := own_has hO9 (by omega)
            have hOw9 := Lib.hid hO9
            have hgR : R ≠ g := by omega
            have hgB : B ≤ g := by omega
            have hfz := hHas.frozen
            have hold : ∀ r, r < 7 → ∃ u, w9.cell? ⟨g, (os2.length - 2) * 7 + r, none⟩ = some u := fun r hr => by
              rw [hHas.cell]
              exact ⟨_, Array.getElem?_eq_getElem (by omega)⟩
            obtain ⟨u0, y0⟩ := hold 0 (by omega)
            obtain ⟨u1, y1⟩ := hold 1 (by omega)
            obtain ⟨u2, y2⟩ := hold 2 (by omega)
            obtain ⟨u3, y3⟩ := hold 3 (by omega)
            obtain ⟨u4, y4⟩ := hold 4 (by omega)
            obtain ⟨u5, y5⟩ := hold 5 (by omega)
            obtain ⟨u6, y6⟩ := hold 6 (by omega)
            rw [Nat.add_zero] at y0
            clear hold hO9
            obtain ⟨qs0, ql0, qo0⟩ := own_put hOw9.out ((os2.length - 2) * 7) (3)
            have qr0 := hr9.new (q := ⟨g, (os2.length - 2) * 7, none⟩) hgB hgR (.int .i64 (3))
            have qc0 := hC9.new (q := ⟨g, (os2.length - 2) * 7, none⟩) hgb (.int .i64 (3))
            obtain ⟨qs1, ql1, qo1⟩ := own_put qo0 ((os2.length - 2) * 7 + 1) (0)
            have qr1 := qr0.new (q := ⟨g, (os2.length - 2) * 7 + 1, none⟩) hgB hgR (.int .i64 (0))
            have qc1 := qc0.new (q := ⟨g, (os2.length - 2) * 7 + 1, none⟩) hgb (.int .i64 (0))
            obtain ⟨qs2, ql2, qo2⟩ := own_put qo1 ((os2.length - 2) * 7 + 2) (1)
            have qr2 := qr1.new (q := ⟨g, (os2.length - 2) * 7 + 2, none⟩) hgB hgR (.int .i64 (1))
            have qc2 := qc1.new (q := ⟨g, (os2.length - 2) * 7 + 2, none⟩) hgb (.int .i64 (1))
            obtain ⟨qs3, ql3, qo3⟩ := own_put qo2 ((os2.length - 2) * 7 + 3) (0)
            have qr3 := qr2.new (q := ⟨g, (os2.length - 2) * 7 + 3, none⟩) hgB hgR (.int .i64 (0))
            have qc3 := qc2.new (q := ⟨g, (os2.length - 2) * 7 + 3, none⟩) hgb (.int .i64 (0))
            obtain ⟨qs4, ql4, qo4⟩ := own_put qo3 ((os2.length - 2) * 7 + 4) (xa)
            have qr4 := qr3.new (q := ⟨g, (os2.length - 2) * 7 + 4, none⟩) hgB hgR (.int .i64 (xa))
            have qc4 := qc3.new (q := ⟨g, (os2.length - 2) * 7 + 4, none⟩) hgb (.int .i64 (xa))
            obtain ⟨qs5, ql5, qo5⟩ := own_put qo4 ((os2.length - 2) * 7 + 5) (xb)
            have qr5 := qr4.new (q := ⟨g, (os2.length - 2) * 7 + 5, none⟩) hgB hgR (.int .i64 (xb))
            have qc5 := qc4.new (q := ⟨g, (os2.length - 2) * 7 + 5, none⟩) hgb (.int .i64 (xb))
            obtain ⟨qs6, ql6, qo6⟩ := own_put qo5 ((os2.length - 2) * 7 + 6) (xc)
            have qr6 := qr5.new (q := ⟨g, (os2.length - 2) * 7 + 6, none⟩) hgB hgR (.int .i64 (xc))
            have qc6 := qc5.new (q := ⟨g, (os2.length - 2) * 7 + 6, none⟩) hgb (.int .i64 (xc))
            have hQ := Lib.hid qo6
            have hql6 : qs6.length ≤ 10 ∧ 1 ≤ qs6.length := by omega
            clear qo0 qo1 qo2 qo3 qo4 qo5 qo6 ql0 ql1 ql2 ql3 ql4 ql5 ql6 qr0 qr1 qr2 qr3 qr4 qr5 qc0 qc1 qc2 qc3 qc4 qc5
            go_wp2
            go_ret
            exact hFin.out _ qs6 _ _ hQ.out hql6.2 hql6.1 (by omega) qr6 qc6
          · go_wp2
            go_ret
            exact hFin.out _ os2 _ _ hO8.out (by omega) (by omega) (by omega) hN2 hN3
        · have hv2' : (v2 == 0) = false := by simp [hv2]
          clear hv2
          go_wp2
          go_ret
          exact hFin.out _ os _ _ hO2.out (by omega) (by omega) (by omega) hr2 hC2
      · go_wp2
        go_ret
        exact hFin.out _ os _ _ hOw.out (by omega) (by omega) (by omega) hr hC
end Go.Proofs.Ytghkpmafocacoaa

namespace Go.Proofs.Ytghkpmafocacoaa
set_option maxRecDepth 100000
open Go.RowKit

theorem cell_in {w : World} {g : Nat} {t : TypeId} {cs : Array Value} (h : Has w g t cs) {x : Nat} (hx : x < cs.size) : ∃ u, w.cell? ⟨g, x, none⟩ = some u := ⟨_, (h.cell x).trans (Array.getElem?_eq_getElem hx)⟩

def lenOf : Value → Nat | .slice _ n _ => n | _ => 0

def Anyd (w : World) (e : Ending) (w' : World) : Prop :=
  ∃ (v : Value) (os : List St), e = .returned v ∧ Own w' w.heap.size v os ∧ os.length ≤ 11 ∧ Below w.heap.size w w'

/-- A program that is drawn, and the source of numbers behind it. -/
def AnyR (w : World) (R : Nat) (A : Option Addr) (n c p : Nat) (e : Ending) (w' : World) : Prop :=
  ∃ (v : Value) (os : List St) (p' : Nat), e = .returned v ∧ Own w' (w.heap.size + 1) v os ∧ os.length ≤ 11 ∧ Below w.heap.size w w' ∧ Rdr w' R R A n c p' ∧ p' ≤ p + 1000

end Go.Proofs.Ytghkpmafocacoaa
