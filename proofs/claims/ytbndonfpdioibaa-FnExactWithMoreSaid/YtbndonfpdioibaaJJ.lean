/- Programs one behind the other: plain functions, the program's and the model's. Joined, of the program and of the model. The model's Joined. -/
import Derived.Test.YtbndonfpdioibaaNm
import Derived.Test.YtbndonfpdioibaaUn
import Derived.Laws.AppendOwnNone
import Derived.Deep.LoopGhost
import Derived.StillTailTactics
import Derived.Deep.RegionLaw
import Derived.Deep.RegionHeld3
import Derived.Test.YtbndonfpdioibaaUnP
namespace Go.Proofs.Ytbndonfpdioibaa
set_option maxRecDepth 100000
set_option linter.unusedVariables false
open Go.RowKit

/-- append onto a row of the call's own, of a row of the call's own. -/
theorem wpList_append_rows {P : Program} {w : World} {ops : Array Oper} {rest : List Oper} {o : Oper} {a : Act} {Q : Exit → Act → World → Prop} (hgd : o.guard = none) (s x : Operand) (t : TypeId)
    (ho : o.op = .call { callee := .builtin .append, args := #[s, x], argTypes := #[t, t] })
    (base : Nat) (e : TypeId) (i : TypeInfo) (z : Value) (size bytes : Nat) (ht : P.underlying t = some (.slice e)) (hi : P.info? e = some i) (hz : i.zero = some z)
    (hsize : i.size = size) (hby : i.bytes = bytes) (hzs : z.cells.size = size) (hsz : 0 < size)
    (v : Value) (n : Nat) (xs : List Value) (hs : a.eval s = v) (hown : w.ownsRow base e size v n xs)
    (base2 : Nat) (u : Value) (m : Nat) (news : List Value) (hx : a.eval x = u) (hsrc : w.ownsRow base2 e size u m news) (h1 : ∀ u ∈ news, u.oneCell' = true)
    (h63 : n + m ≤ maxLen) (hbytes : (n + m) * bytes ≤ 140737488355328) (hbase : base ≤ w.heap.size)
    (h : ∀ v' w', w'.ownsRow base e size v' (n + m) (xs ++ news) → w.grownBy w' v.ownBlock → (v'.ownBlock = v.ownBlock ∨ v'.ownBlock = some w.heap.size) → wpList P ops Q rest (a.put o.dst v') w') :
    wpList P ops Q (o :: rest) a w := by
  rcases hsrc.2 with ⟨hv, hm⟩ | ⟨g, cap, cur, hv, hg, hh, h2, h3, h4, h5⟩
  · subst hm
    have hn : news = [] := List.eq_nil_of_length_eq_zero (by rw [hsrc.1, Nat.zero_mul])
    subst hn
    refine wpList_append_own_none hgd s x t ho base e i size ht hi v n xs hs hown (by rw [hx, hv]) (h v w ?_ (World.grownBy.refl w _) (.inl rfl))
    simpa using hown
  · refine wpList_append_own_at w hgd s x t ho base e i z size bytes ht hi hz hsize hby hzs hsz v n xs hs hown ⟨g, 0, none⟩ m cap news (by rw [hx, hv]) hsrc.1 ?_ h1 h63 hbytes hbase (fun v' w' a1 a2 _ a4 => h v' w' a1 a2 a4)
    intro j q hq
    have e1 : ((⟨g, 0, none⟩ : Addr).add j) = ⟨g, j, none⟩ := by
      unfold Addr.add
      split
      · (rename_i h0; simp at h0 ⊢; try omega)
      · (simp; try omega)
    rw [e1, cell_of_row w g j cur e (0, 0) hh]
    rw [← h5, List.getElem?_take] at hq
    split at hq
    · simpa using hq
    · cases hq

/-- Whether a skip leads beyond where they end. -/
def St.past (n : Nat) (i : Nat) (s : St) : Bool := s.k == 6 && decide ((n : Int) < i + 1 + s.b)
def pastFrom (n : Nat) : Nat → List St → Bool
  | _, [] => false
  | i, s :: r => s.past n i || pastFrom n (i + 1) r
def past (os : List St) : Bool := pastFrom os.length 0 os
theorem pastFrom_yes {n : Nat} : ∀ {os : List St} {i k : Nat} {s : St}, os[k]? = some s → s.past n (i + k) = true → pastFrom n i os = true
  | [], i, k, s, h, _ => by simp at h
  | q :: r, i, 0, s, h, hs => by
    have hq : q = s := by simpa using h
    subst hq
    have hs' : q.past n i = true := hs
    rw [pastFrom, hs']
    rfl
  | q :: r, i, k + 1, s, h, hs => by
    rw [pastFrom, pastFrom_yes (i := i + 1) (k := k) (s := s) (by simpa using h) (by rw [show i + 1 + k = i + (k + 1) by omega]; exact hs), Bool.or_true]
theorem pastFrom_no {n : Nat} : ∀ {os : List St} {i : Nat}, (∀ (k : Nat) (s : St), os[k]? = some s → s.past n (i + k) = false) → pastFrom n i os = false
  | [], i, _ => rfl
  | q :: r, i, h => by
    rw [pastFrom, show q.past n i = false from h 0 q rfl, pastFrom_no (fun k s hs => by rw [show i + 1 + k = i + (k + 1) by omega]; exact h (k + 1) s (by simpa using hs))]
    rfl
/-- The program of two, one behind the other, unrolled. -/
def joined (ps qs : List St) : Option (List St) := (unrolled ps).bind fun a => (unrolled qs).bind fun b => if past a = true then none else if (unrolled (a ++ b)).isSome = true then some (a ++ b) else none
theorem joined_no1 {ps qs : List St} (h : unrolled ps = none) : joined ps qs = none := by unfold joined; rw [h]; rfl
theorem joined_no2 {ps qs : List St} (h : unrolled qs = none) : joined ps qs = none := by
  unfold joined; rw [h]
  cases unrolled ps <;> rfl
theorem joined_past {ps qs a b : List St} (h : unrolled ps = some a) (h2 : unrolled qs = some b) (hp : past a = true) : joined ps qs = none := by unfold joined; rw [h, h2]; exact if_pos hp
theorem joined_both {ps qs a b : List St} (h : unrolled ps = some a) (h2 : unrolled qs = some b) (hp : past a = false) : joined ps qs = if (unrolled (a ++ b)).isSome = true then some (a ++ b) else none := by
  unfold joined; rw [h, h2]
  show (if past a = true then none else _) = _
  rw [if_neg (by simp [hp])]

end Go.Proofs.Ytbndonfpdioibaa

namespace Go.Proofs.Ytbndonfpdioibaa
set_option maxRecDepth 100000
set_option linter.unusedVariables false
open Go.RowKit

theorem Own.len {w : World} {base : Nat} {v : Value} {os : List St} (h : Own w base v os) : w.ownsRow base 78 7 v os.length (flat os) := h

end Go.Proofs.Ytbndonfpdioibaa

namespace Go.Proofs.Ytbndonfpdioibaa
set_option maxRecDepth 100000
set_option linter.unusedVariables false
open Go.RowKit

theorem l1Copy_any (A : Option Addr) (n c base : Nat) (os : List St) (w : World) (h : w.ownsRow base 78 7 (.slice A n c) n (flat os)) (hn : n ≤ 1000) :
    Calls Try.prog 74 #[.slice A n c] w fun e w' => ∃ v, e = .returned v ∧ w'.ownsRow w.heap.size 78 7 v n (flat os) ∧ Below w.heap.size w w' := by
  have hO := Lib.hid (World.ownsRow.alloc h (.cells #[] 78))
  have hN := Lib.hid (show (w.alloc (.cells #[] 78)).ownsRow w.heap.size 78 7 (.slice (some ⟨w.heap.size, 0, none⟩) 0 0) 0 [] from
    ⟨rfl, .inr ⟨w.heap.size, 0, #[], rfl, Nat.le_refl _, Has.new w _ _, Nat.le_refl _, Nat.zero_le _, rfl, rfl⟩⟩)
  clear h
  obtain ⟨i0, hi0, hz0, hz1', hz2'⟩ := info_parts info_stmt
  have hB : Below w.heap.size w (w.alloc (.cells #[] 78)) := (Below.refl _ _).alloc (Nat.le_refl _) _
  go_enter Try.func74, Try.ntmps74
  go_wp2_with (at_builtin; refine wpList_append_rows rfl (.tmp 5) (.tmp 6) 27 rfl w.heap.size 78 i0 _ 7 56 Try.underlying27 hi0 hz0 hz1' hz2' rfl (by decide) (.slice (some ⟨w.heap.size, 0, none⟩) 0 0) 0 [] rfl (by exact hN.out) _ (.slice A n c) n (flat os) rfl (by exact hO.out) (flat_one os) (by unfold maxLen; omega) (by omega) (by simp) ?_; intro v' w4 hown4 hgrow4 hblk)
  obtain ⟨A5, c5, hv5, hl5, hm5⟩ := owns_form hown4
  subst hv5
  have hf := Lib.hid (show w4.ownsRow w.heap.size 78 7 (.slice A5 (0 + n) c5) n (flat os) from by simpa using hown4)
  have hB4 := Lib.hid (hB.grown hgrow4 (by simp) (fun k hk => by
    have h1 : w.heap.size = k := by simpa [Value.ownBlock] using hk
    omega))
  clear hown4 hgrow4 hblk
  go_wp2
  go_ret
  exact ⟨_, rfl, hf.out, hB4.out⟩

end Go.Proofs.Ytbndonfpdioibaa
