/- Parts of the proof: K7. -/
import Derived.Laws.AppendOwnNone
import Derived.Test.YtaipdkfbkcknkaaZAF
import Derived.Test.YtaipdkfbkcknkaaZAI
import Derived.Test.YtaipdkfbkcknkaaZAK
namespace Go.Proofs.Ytaipdkfbkcknkaa
set_option maxRecDepth 100000
set_option linter.unusedVariables false
open Go.RowKit
theorem wpList_append_ilst {w : World} {ops : Array Oper} {rest : List Oper} {o : Oper} {a : Act} {Q : Exit → Act → World → Prop} (hgd : o.guard = none) (s x : Operand)
    (ho : o.op = .call { callee := .builtin .append, args := #[s, x], argTypes := #[22, 22] })
    (base B : Nat) (v : Value) (m : Nat) (os : List Int) (hs : a.eval s = v) (hown : w.ownsRow base 3 1 v m (ints os))
    (A : Option Addr) (n cap : Nat) (ps : List Int) (hx : a.eval x = .slice A n cap) (hL : Ils w B A n ps) (h0 : A = none → cap = 0)
    (h63 : m + n ≤ 1000000) (hbase : base ≤ w.heap.size)
    (h : ∀ v' w', w'.ownsRow base 3 1 v' (m + n) (ints os ++ ints ps) → w.grownBy w' v.ownBlock → wpList Try.prog ops Q rest (a.put o.dst v') w') :
    wpList Try.prog ops Q (o :: rest) a w := by
  obtain ⟨i0, hi0, hz0, hz1', hz2'⟩ := info_parts info_int
  cases A with
  | none =>
    obtain rfl := h0 rfl
    have hn : n = 0 := by
      by_cases hn : 0 < n
      · obtain ⟨_, _, e, _⟩ := hL.2 hn
        cases e
      · omega
    subst hn
    have hps : ps = [] := List.eq_nil_of_length_eq_zero hL.1
    subst hps
    refine wpList_append_own_none hgd s x _ ho base 3 i0 1 Try.underlying22 hi0 v m (ints os) hs hown hx (h v w ?_ (World.grownBy.refl w _))
    simpa [ints] using hown
  | some ad =>
    refine wpList_append_own _ hgd s x _ ho base 3 i0 _ 1 8 Try.underlying22 hi0 hz0 hz1' hz2' rfl (by decide) v m (ints os) hs hown ad n cap (ints ps) hx (by rw [ints_length, hL.1]; omega) ?_ (ints_one ps) (by unfold maxLen; omega) (by omega) hbase (fun v' w' h1 h2 _ => h v' w' h1 h2)
    intro j u hu
    by_cases hn : 0 < n
    · obtain ⟨g, off, e, _, hc⟩ := hL.2 hn
      injection e with e
      subst e
      have hj : j < ps.length := by have := (List.getElem?_eq_some_iff.1 hu).1; rwa [ints_length] at this
      have hd : ps[j]? = some ps[j] := List.getElem?_eq_getElem hj
      have h1 := hc j _ hd
      have h2 := ints_get hd
      rw [h2] at hu
      rw [← Option.some.inj hu, ← h1]
      congr 1
      unfold Addr.add
      simp
    · have hps : ps = [] := List.eq_nil_of_length_eq_zero (by have := hL.1; omega)
      subst hps
      simp [ints] at hu
set_option maxHeartbeats 1000000 in
theorem l9Copy_any (A1 A2 : Option Addr) (n1 c1 n2 c2 : Nat) (F : Fac) (w : World) (h : FacW w w.heap.size A1 n1 A2 n2 F) (h1 : A1 = none → c1 = 0) (h2 : A2 = none → c2 = 0) (hn1 : n1 ≤ 1000) (hn2 : n2 ≤ 1000) :
    Calls Try.prog 111 #[.agg #[.slice A1 n1 c1, .slice A2 n2 c2]] w (Fcd w F) := by
  have hl1 := h.1.1
  have hl2 := h.2.1
  have hB3 : Below w.heap.size w (((w.alloc (.cells #[.slice A1 n1 c1, .slice A2 n2 c2] 36)).alloc (.cells #[.slice none 0 0, .slice none 0 0] 36)).alloc (.cells #[.slice none 0 0, .slice none 0 0] 36)) := (((Below.refl _ _).alloc (Nat.le_refl _) _).alloc (by simp) _).alloc (by simp; omega) _
  have hF3 := Lib.hid (show FacW _ w.heap.size A1 n1 A2 n2 F from h.keep_ hB3)
  have hf3 := Lib.hid (((Has.new w 36 #[.slice A1 n1 c1, .slice A2 n2 c2]).alloc (.cells #[.slice none 0 0, .slice none 0 0] 36)).alloc (.cells #[.slice none 0 0, .slice none 0 0] 36))
  have hr3 := Lib.hid ((Has.newAt (w := w.alloc (.cells #[.slice A1 n1 c1, .slice A2 n2 c2] 36)) (n := w.heap.size + 1) (t := 36) (cs := #[.slice none 0 0, .slice none 0 0]) (by simp)).alloc (.cells #[.slice none 0 0, .slice none 0 0] 36))
  have ho3 := Lib.hid (Has.newAt (w := (w.alloc (.cells #[.slice A1 n1 c1, .slice A2 n2 c2] 36)).alloc (.cells #[.slice none 0 0, .slice none 0 0] 36)) (n := w.heap.size + 1 + 1) (t := 36) (cs := #[.slice none 0 0, .slice none 0 0]) (by simp))
  have hB3h := Lib.hid hB3
  have h1h := Lib.hid h1
  have h2h := Lib.hid h2
  have hlh1 := Lib.hid hl1
  have hlh2 := Lib.hid hl2
  have hz3 := Lib.hid (show w.heap.size + 1 + 1 < (((w.alloc (.cells #[.slice A1 n1 c1, .slice A2 n2 c2] 36)).alloc (.cells #[.slice none 0 0, .slice none 0 0] 36)).alloc (.cells #[.slice none 0 0, .slice none 0 0] 36)).heap.size by simp)
  clear h hB3 h1 h2 hl1 hl2
  go_enter Try.func111, Try.ntmps111
  go_wp2_with (at_builtin; refine wpList_append_ilst rfl (.tmp 6) (.tmp 8) rfl w.heap.size w.heap.size (.slice none 0 0) 0 [] rfl (by exact IOwn.nil _ _) A1 n1 c1 F.vs rfl (by exact hF3.out.1) h1h.out (by omega) (by exact hB3h.out.size) ?_)
  intro v1 w4 hown hgrow
  have hk4 := Lib.hid (show Below _ _ w4 from (KeptBut.of_grown (S := fun _ => False) hgrow (fun k e => by cases e)).below (fun i _ e => e) (Nat.le_refl _))
  have hv1 : IOwn w4 w.heap.size v1 F.vs := by
    have := hown
    unfold IOwn
    rw [hlh1.out]
    exact this
  obtain ⟨Av, cv, rfl, _, _⟩ := hv1.form
  generalize ((w.alloc (.cells #[.slice A1 n1 c1, .slice A2 n2 c2] 36)).alloc (.cells #[.slice none 0 0, .slice none 0 0] 36)).alloc (.cells #[.slice none 0 0, .slice none 0 0] 36) = W3 at *
  have hB4 := hB3h.out.trans (hk4.out.mono hB3h.out.size)
  have hF4 : FacW w4 w.heap.size A1 n1 A2 n2 F := hF3.out.keep_ (hk4.out.mono hB3h.out.size)
  have hf4 := hf3.out.kept hk4.out
  have hr4 := hr3.out.kept hk4.out
  have ho4 := ho3.out.kept hk4.out
  have hO5 := ho4.put 0 (.slice Av F.vs.length cv)
  have hB5 := hB4.setCell (p := ⟨w.heap.size + 1 + 1, 0, none⟩) (by show w.heap.size ≤ w.heap.size + 1 + 1; omega) (.slice Av F.vs.length cv)
  have hF5 : FacW (w4.setCell ⟨w.heap.size + 1 + 1, 0, none⟩ (.slice Av F.vs.length cv)) w.heap.size A1 n1 A2 n2 F := hF4.keep_ ((Below.refl _ _).setCell (p := ⟨w.heap.size + 1 + 1, 0, none⟩) (by show w.heap.size ≤ w.heap.size + 1 + 1; omega) _)
  have hf5 := hf4.far (p := ⟨w.heap.size + 1 + 1, 0, none⟩) (by show w.heap.size ≠ w.heap.size + 1 + 1; omega) (.slice Av F.vs.length cv)
  have hr5 := hr4.far (p := ⟨w.heap.size + 1 + 1, 0, none⟩) (by show w.heap.size + 1 ≠ w.heap.size + 1 + 1; omega) (.slice Av F.vs.length cv)
  have hv5 : IOwn (w4.setCell ⟨w.heap.size + 1 + 1, 0, none⟩ (.slice Av F.vs.length cv)) w.heap.size (.slice Av F.vs.length cv) F.vs := hv1.but ((KeptBut.refl _ (fun i => i = w.heap.size + 1 + 1)).put (p := ⟨w.heap.size + 1 + 1, 0, none⟩) (fun _ => rfl) _) (fun k hk e => iown_ne hv1 ho4 (by decide) k hk e)
  have hlt5 := Lib.hid (fun k (hk : (Value.slice Av F.vs.length cv).ownBlock = some k) => (World.ownsRow.lt hv5 k hk).2)
  have c4a := ho4.cell
  have c4b := ho4.frozen
  have c4c := hf4.cell
  have hB5h := Lib.hid hB5
  have hF5h := Lib.hid hF5
  have hf5h := Lib.hid hf5
  have hr5h := Lib.hid hr5
  have hO5h := Lib.hid hO5
  have hv5h := Lib.hid hv5
  clear hown hgrow hk4 hv1 hB4 hF4 hf4 hr4 hf3 hr3 ho3 hF3 hz3 hB3h hB5 hF5 hf5 hr5 hO5 hv5
  go_wp2_with (at_builtin; refine wpList_append_ilst rfl (.tmp 12) (.tmp 14) rfl _ w.heap.size (.slice none 0 0) 0 [] rfl (by exact IOwn.nil _ _) A2 n2 c2 F.ns rfl (by exact hF5h.out.2) h2h.out (by omega) (Nat.le_refl _) ?_)
  intro v2 w6 hown hgrow
  have hz5 : (w4.setCell ⟨w.heap.size + 1 + 1, 0, none⟩ (.slice Av F.vs.length cv)).heap.size = w4.heap.size := by simp
  generalize w4.setCell ⟨w.heap.size + 1 + 1, 0, none⟩ (.slice Av F.vs.length cv) = w5 at *
  have hk6 : Below w5.heap.size w5 w6 := (KeptBut.of_grown (S := fun _ => False) hgrow (fun k e => by cases e)).below (fun i _ e => e) (Nat.le_refl _)
  have hv2 : IOwn w6 w5.heap.size v2 F.ns := by
    have := hown
    unfold IOwn
    rw [hlh2.out, hz5]
    exact this
  obtain ⟨Bv, ev, rfl, _, _⟩ := hv2.form
  have hB6 := hB5h.out.trans (hk6.mono hB5h.out.size)
  have hr6 := hr5h.out.kept hk6
  have ho6 := hO5h.out.kept hk6
  have hv16 := hv5h.out.below hk6
  have hV6 : FcV w6 w.heap.size (.slice Av F.vs.length cv) (.slice Bv F.ns.length ev) F := ⟨hv16, owns_le hv2 hB5h.out.size, fun b e1 e2 => by
    have q1 := hlt5.out b e1
    have q2 := (World.ownsRow.lt hv2 b e2).1
    omega⟩
  have ho7 := ho6.put 1 (.slice Bv F.ns.length ev)
  have hr7 := hr6.far (p := ⟨w.heap.size + 1 + 1, 1, none⟩) (by show w.heap.size + 1 ≠ w.heap.size + 1 + 1; omega) (.slice Bv F.ns.length ev)
  have hB7 := hB6.setCell (p := ⟨w.heap.size + 1 + 1, 1, none⟩) (by show w.heap.size ≤ w.heap.size + 1 + 1; omega) (.slice Bv F.ns.length ev)
  have hV7 : FcV (w6.setCell ⟨w.heap.size + 1 + 1, 1, none⟩ (.slice Bv F.ns.length ev)) w.heap.size (.slice Av F.vs.length cv) (.slice Bv F.ns.length ev) F := by
    have hk := (KeptBut.refl w6 (fun i => i = w.heap.size + 1 + 1)).put (p := ⟨w.heap.size + 1 + 1, 1, none⟩) (fun _ => rfl) (.slice Bv F.ns.length ev)
    exact ⟨hV6.1.but hk (fun k hk e => iown_ne hV6.1 ho6 (by decide) k hk e), hV6.2.1.but hk (fun k hk e => iown_ne hV6.2.1 ho6 (by decide) k hk e), hV6.2.2⟩
  have c6a := ho6.cell
  have c6b := ho6.frozen
  have c7a := ho7.cell
  have c7b := hr7.cell
  have c7c := hr7.frozen
  have hp1 := (hr7.put 0 (.slice Av F.vs.length cv)).cell 0
  have hp2 := ((hr7.put 0 (.slice Av F.vs.length cv)).put 1 (.slice Bv F.ns.length ev)).cell 1
  have hr7h := Lib.hid hr7
  have hB7h := Lib.hid hB7
  have hV7h := Lib.hid hV7
  clear hown hgrow hk6 hv2 hB6 hr6 ho6 hv16 hV6 ho7 hr7 hB7 hV7 c4a c4b c4c
  go_wp2_with fail
  refine bodyPost_ret (v := .agg #[.slice Av F.vs.length cv, .slice Bv F.ns.length ev]) (by simp [results, Try.results111, go_sem, hp1, hp2]) rfl ⟨_, _, rfl, hV7h.out.put2 hr7h.out _ _, ?_⟩
  exact (hB7h.out.setCell (p := ⟨w.heap.size + 1, 0, none⟩) (by show w.heap.size ≤ w.heap.size + 1; omega) _).setCell (p := ⟨w.heap.size + 1, 1, none⟩) (by show w.heap.size ≤ w.heap.size + 1; omega) _
end Go.Proofs.Ytaipdkfbkcknkaa
