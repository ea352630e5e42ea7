/- Programs one behind the other: plain functions, the program's and the model's. Joined, of the program and of the model. The model's Joined. -/
import Derived.Test.YtbjpodgmmpchjaaNm
import Derived.Test.YtbjpodgmmpchjaaUn
import Derived.Laws.AppendOwnNone
import Derived.Deep.LoopGhost
import Derived.StillTailTactics
import Derived.Deep.RegionLaw
import Derived.Deep.RegionHeld3
import Derived.Test.YtbjpodgmmpchjaaUnP
namespace Go.Proofs.Ytbjpodgmmpchjaa
set_option maxRecDepth 100000
set_option linter.unusedVariables false
open Go.RowKit

/-- append onto a row of the call's own, of a row of the call's own. -/
theorem wpList_append_rows {P : Program} {w : World} {ops : Array Oper} {rest : List Oper} {o : Oper} {a : Act} {Q : Exit → Act → World → Prop} (hgd : o.guard = none) (s x : Operand) (t : TypeId)
    (ho : o.op = .call { callee := .builtin .append, args := #[s, x], argTypes := #[t, t] })
    (base : Nat) (e : TypeId) (i : TypeInfo) (z : Value) (size bytes : Nat) (ht : P.underlying t = some (.slice e)) (hi : P.info? e = some i) (hz : i.zero = some z)
    (hsize : i.size = size) (hby : i.bytes = bytes) (hzs : z.cells.size = size) (hsz : 0 < size)
    (v : Value) (n : Nat) (xs : List Value) (hs : a.eval s = v) (hown : w.ownsRow base e size v n xs)
    (base2 : Nat) (u : Value) (m : Nat) (news : List Value) (hx : a.eval x = u) (hsrc : w.ownsRow base2 e size u m news) (h1 : ∀ u ∈ news, u.oneCell' = true)
    (h63 : n + m ≤ maxLen) (hbytes : (n + m) * bytes ≤ 140737488355328) (hbase : base ≤ w.heap.size)
    (h : ∀ v' w', w'.ownsRow base e size v' (n + m) (xs ++ news) → w.grownBy w' v.ownBlock → (v'.ownBlock = v.ownBlock ∨ v'.ownBlock = some w.heap.size) → wpList P ops Q rest (a.put o.dst v') w') :
    wpList P ops Q (o :: rest) a w := by
  rcases hsrc.2 with ⟨hv, hm⟩ | ⟨g, cap, cur, hv, hg, hh, h2, h3, h4, h5⟩
  · subst hm
    have hn : news = [] := List.eq_nil_of_length_eq_zero (by rw [hsrc.1, Nat.zero_mul])
    subst hn
    refine wpList_append_own_none hgd s x t ho base e i size ht hi v n xs hs hown (by rw [hx, hv]) (h v w ?_ (World.grownBy.refl w _) (.inl rfl))
    simpa using hown
  · refine wpList_append_own_at w hgd s x t ho base e i z size bytes ht hi hz hsize hby hzs hsz v n xs hs hown ⟨g, 0, none⟩ m cap news (by rw [hx, hv]) hsrc.1 ?_ h1 h63 hbytes hbase (fun v' w' a1 a2 _ a4 => h v' w' a1 a2 a4)
    intro j q hq
    have e1 : ((⟨g, 0, none⟩ : Addr).add j) = ⟨g, j, none⟩ := by
      unfold Addr.add
      split
      · (rename_i h0; simp at h0 ⊢; try omega)
      · (simp; try omega)
    rw [e1, cell_of_row w g j cur e (0, 0) hh]
    rw [← h5, List.getElem?_take] at hq
    split at hq
    · simpa using hq
    · cases hq

/-- Whether a skip leads beyond where they end. -/
def St.past (n : Nat) (i : Nat) (s : St) : Bool := s.k == 6 && decide ((n : Int) < i + 1 + s.b)
def pastFrom (n : Nat) : Nat → List St → Bool
  | _, [] => false
  | i, s :: r => s.past n i || pastFrom n (i + 1) r
def past (os : List St) : Bool := pastFrom os.length 0 os
theorem pastFrom_yes {n : Nat} : ∀ {os : List St} {i k : Nat} {s : St}, os[k]? = some s → s.past n (i + k) = true → pastFrom n i os = true
  | [], i, k, s, h, _ => by simp at h
  | q :: r, i, 0, s, h, hs => by
    have hq : q = s := by simpa using h
    subst hq
    have hs' : q.past n i = true := hs
    rw [pastFrom, hs']
    rfl
  | q :: r, i, k + 1, s, h, hs => by
    rw [pastFrom, pastFrom_yes (i := i + 1) (k := k) (s := s) (by simpa using h) (by rw [show i + 1 + k = i + (k + 1) by omega]; exact hs), Bool.or_true]
theorem pastFrom_no {n : Nat} : ∀ {os : List St} {i : Nat}, (∀ (k : Nat) (s : St), os[k]? = some s → s.past n (i + k) = false) → pastFrom n i os = false
  | [], i, _ => rfl
  | q :: r, i, h => by
    rw [pastFrom, show q.past n i = false from h 0 q rfl, pastFrom_no (fun k s hs => by rw [show i + 1 + k = i + (k + 1) by omega]; exact h (k + 1) s (by simpa using hs))]
    rfl
/-- The program of two, one behind the other, unrolled. -/
def joined (ps qs : List St) : Option (List St) := (unrolled ps).bind fun a => (unrolled qs).bind fun b => if past a = true then none else if (unrolled (a ++ b)).isSome = true then some (a ++ b) else none
theorem joined_no1 {ps qs : List St} (h : unrolled ps = none) : joined ps qs = none := by unfold joined; rw [h]; rfl
theorem joined_no2 {ps qs : List St} (h : unrolled qs = none) : joined ps qs = none := by
  unfold joined; rw [h]
  cases unrolled ps <;> rfl
theorem joined_past {ps qs a b : List St} (h : unrolled ps = some a) (h2 : unrolled qs = some b) (hp : past a = true) : joined ps qs = none := by unfold joined; rw [h, h2]; exact if_pos hp
theorem joined_both {ps qs a b : List St} (h : unrolled ps = some a) (h2 : unrolled qs = some b) (hp : past a = false) : joined ps qs = if (unrolled (a ++ b)).isSome = true then some (a ++ b) else none := by
  unfold joined; rw [h, h2]
  show (if past a = true then none else _) = _
  rw [if_neg (by simp [hp])]

theorem passesBeyond_any (A : Option Addr) (n c : Nat) (os : List St) (w : World) (h : Lst w w.heap.size A n os) (hn : n ≤ 12) (hok : os.all St.ok = true) :
    Calls Try.prog 77 #[.slice A n c] w fun e w' => e = .returned (.bool (past os)) ∧ Below w.heap.size w w' := by
  have hL := Lib.hid h.1
  have hH := Lib.hid h
  have hOk := Lib.hid hok
  clear h hok
  go_enter Try.func77, Try.ntmps77
  go_wp2
  go_loopw [7] (fun i wr => ∃ k : Nat, k ≤ n ∧ i = .int .i64 k ∧ (∀ (j : Nat) (s : St), j < k → os[j]? = some s → s.past n j = false) ∧ Below w.heap.size w wr) (fun i _ => n - (intOf i).toNat)
  case atStart => exact ⟨0, Nat.zero_le _, rfl, fun j s hj => absurd hj (by omega), Below.refl _ _⟩
  case round =>
    obtain ⟨k, hk, rfl, hno, hb⟩ := hrel
    have hNo := Lib.hid hno
    have hB := Lib.hid hb
    have hz := hb.size
    clear hno
    by_cases hlt : k < n
    · obtain ⟨g, off, s, rfl, hg, hs, hat⟩ := (hH.out.below hb).at_ hlt
      obtain ⟨c0, c1, c2, c3, c4, c5, c6⟩ := hat.open_
      have hS := Lib.hid hs
      have hrg := ok_rng (List.all_eq_true.1 hOk.out s (List.mem_of_getElem? hs))
      have hk0 : (0 : Int) ≤ (k : Int) := Int.natCast_nonneg _
      have hk1 : (k : Int) < (n : Int) := by omega
      clear hs hat hb
      by_cases h6 : s.k = 6
      · have hb12 : 1 ≤ s.b ∧ s.b ≤ 12 := by omega
        have h6b : (s.k == 6) = true := by simpa using h6
        by_cases hp : (n : Int) < k + 1 + s.b
        · have hR := Lib.hid (show past os = true from pastFrom_yes hS.out (by unfold St.past; rw [h6b, hL.out]; simp; omega))
          clear h6 hrg
          go_wp2
          go_ret
          exact ⟨ret_bool hR.out, hB.out.alloc hz _⟩
        · have hR := Lib.hid (show s.past n k = false by unfold St.past; rw [h6b]; simp; omega)
          clear h6 hrg
          go_wp2
          go_roundw
          case rel => exact ⟨k + 1, by omega, by go_num, fun j q hj hq => by
            by_cases hjk : j = k
            · subst hjk
              rw [Option.some.inj (hq.symm.trans hS.out)]
              exact hR.out
            · exact hNo.out j q (by omega) hq, hB.out.alloc hz _⟩
          case measure => (simp [intOf]; try omega)
      · have h6b : (s.k == 6) = false := by simpa using h6
        have hR := Lib.hid (show s.past n k = false by unfold St.past; rw [h6b]; rfl)
        clear h6 hrg
        go_wp2
        go_roundw
        case rel => exact ⟨k + 1, by omega, by go_num, fun j q hj hq => by
          by_cases hjk : j = k
          · subst hjk
            rw [Option.some.inj (hq.symm.trans hS.out)]
            exact hR.out
          · exact hNo.out j q (by omega) hq, hB.out.alloc hz _⟩
        case measure => (simp [intOf]; try omega)
    · obtain rfl : n = k := by omega
      have hR := Lib.hid (show past os = false from by
        unfold past
        rw [hL.out]
        exact pastFrom_no (fun j s hs => by rw [Nat.zero_add]; exact hNo.out j s (by have := (List.getElem?_eq_some_iff.1 hs).1; have := hL.out; omega) hs))
      clear hb
      go_wp2
      go_ret
      exact ⟨ret_bool hR.out, hB.out⟩
end Go.Proofs.Ytbjpodgmmpchjaa

namespace Go.Proofs.Ytbjpodgmmpchjaa
set_option maxRecDepth 100000
set_option linter.unusedVariables false
open Go.RowKit

theorem Own.len {w : World} {base : Nat} {v : Value} {os : List St} (h : Own w base v os) : w.ownsRow base 64 7 v os.length (flat os) := h

set_option maxHeartbeats 1000000 in
theorem Joined_any (A A2 : Option Addr) (n c n2 c2 : Nat) (ps qs : List St) (w : World) (h : Lst w w.heap.size A n ps) (h2 : Lst w w.heap.size A2 n2 qs) (hn : n ≤ c) (hc : c ≤ maxLen) (hn2 : n2 ≤ c2) (hc2 : c2 ≤ maxLen) :
    Calls Try.prog 40 #[.slice A n c, .slice A2 n2 c2] w (Unrd w (joined ps qs)) := by
  have hC := Lib.hid (Unrolled_any A n c ps w h hn hc)
  have hC2 := Lib.hid (fun wx hx => Unrolled_any A2 n2 c2 qs wx hx hn2 hc2)
  have hH2 := Lib.hid h2
  clear h h2 hc hc2
  cases hu : unrolled ps with
  | none =>
    have hU := Lib.hid hu
    have hR := Lib.hid (joined_no1 (qs := qs) hu)
    clear hu
    go_enter Try.func40, Try.ntmps40
    go_wp2_with fail
    refine (hC.out).mono ?_
    rw [hU.out]
    rintro e w1 ⟨v, rfl, hown, hb⟩
    clear hown
    go_wp2_with fail
    refine (hC2.out _ ((hH2.out.below hb).more hb.size)).mono ?_
    rintro e w2 ⟨v2, rfl, hown2, hb2⟩
    have hB := Lib.hid (hb.trans (hb2.mono hb.size))
    clear hown2 hb hb2
    go_wp2_with fail
    go_ret2
    exact Unrd.no hR.out hB.out
  | some a =>
    obtain ⟨_, hlen, _, _, hOK⟩ := unrolled_parts hu
    have hU := Lib.hid hu
    have hOk := Lib.hid hOK
    clear hOK
    cases hu2 : unrolled qs with
    | none =>
      have hU2 := Lib.hid hu2
      have hR := Lib.hid (joined_no2 (ps := ps) hu2)
      clear hu hu2
      go_enter Try.func40, Try.ntmps40
      go_wp2_with fail
      refine (hC.out).mono ?_
      rw [hU.out]
      rintro e w1 ⟨v, rfl, hown, hb⟩
      clear hown
      go_wp2_with fail
      refine (hC2.out _ ((hH2.out.below hb).more hb.size)).mono ?_
      rw [hU2.out]
      rintro e w2 ⟨v2, rfl, hown2, hb2⟩
      have hB := Lib.hid (hb.trans (hb2.mono hb.size))
      clear hown2 hb hb2
      go_wp2_with fail
      go_ret2
      exact Unrd.no hR.out hB.out
    | some b =>
      obtain ⟨_, hlen2, _, _, _⟩ := unrolled_parts hu2
      have hU2 := Lib.hid hu2
      have hRp := Lib.hid (fun hp => joined_past hu hu2 hp)
      have hRb := Lib.hid (fun hp => joined_both hu hu2 hp)
      clear hu hu2
      obtain ⟨i0, hi0, hz0, hz1', hz2'⟩ := info_parts info_stmt
      cases hpa : past a
      · have hPa := Lib.hid hpa
        have hRR := Lib.hid (hRb.out hpa)
        clear hpa
        go_enter Try.func40, Try.ntmps40
        go_wp2_with fail
        refine (hC.out).mono ?_
        rw [hU.out]
        rintro e w1 ⟨v, rfl, hown', hb⟩
        have hown : Own w1 w.heap.size v a := hown'
        obtain ⟨A3, c3, hv, hlc, hcm⟩ := hown.form
        subst hv
        have hO := Lib.hid hown
        clear hown hown'
        go_wp2_with fail
        refine (hC2.out _ ((hH2.out.below hb).more hb.size)).mono ?_
        rw [hU2.out]
        rintro e w2 ⟨v2, rfl, hown2', hb2⟩
        have hown2 : Own w2 w1.heap.size v2 b := hown2'
        obtain ⟨A4, c4, hv, hlc4, hcm4⟩ := hown2.form
        subst hv
        have hB := Lib.hid (hb.trans (hb2.mono hb.size))
        have hO2 := Lib.hid hown2
        have hO1 := Lib.hid (Own.below hO.out hb2)
        clear hown2 hown2' hb hb2 hO
        go_wp2_with fail
        refine (passesBeyond_any A3 a.length c3 a _ hO1.out.lst hlen hOk.out).mono ?_
        rw [hPa.out]
        rintro e w3 ⟨rfl, hb3⟩
        have hB3 := Lib.hid (hB.out.trans (hb3.mono hB.out.size))
        have hO3 := Lib.hid (Own.below hO1.out hb3)
        have hO23 := Lib.hid (Own.below hO2.out hb3)
        have hz3 := hB3.out.size
        clear hb3 hO1 hO2 hB
        go_wp2_with (at_builtin; refine wpList_append_rows rfl (.tmp 31) (.tmp 32) 26 rfl w.heap.size 64 i0 _ 7 56 Try.underlying26 hi0 hz0 hz1' hz2' rfl (by decide) (.slice A3 a.length c3) a.length (flat a) rfl (by exact hO3.out) _ (.slice A4 b.length c4) b.length (flat b) rfl (by exact hO23.out) (flat_one b) (by unfold maxLen; omega) (by omega) (by omega) ?_; intro v' w4 hown4 hgrow4 _)
        obtain ⟨A5, c5, hv5, hl5, hm5⟩ := owns_form hown4
        subst hv5
        have hfin := hO3.out.append_ (news := b) hown4 hgrow4 hB3.out hz3
        have hO5 := Lib.hid hfin.1
        have hB5 := Lib.hid hfin.2
        have hlst5 := Lib.hid (show Lst w4 w4.heap.size A5 (a.length + b.length) (a ++ b) from by
          have h5 : Own w4 w.heap.size (.slice A5 (a.length + b.length) c5) (a ++ b) := hfin.1
          rw [← List.length_append] at h5
          have := h5.lst
          rwa [List.length_append] at this)
        clear hfin hown4 hgrow4 hO3 hO23
        go_wp2_with fail
        refine (ProgramOk_any A5 (a.length + b.length) c5 (a ++ b) _ hlst5.out hl5 hm5).mono ?_
        rintro e w6 ⟨he, hb6⟩
        have hB6 := Lib.hid (hB5.out.trans (hb6.mono hB5.out.size))
        have hO6 := Lib.hid (Own.below hO5.out hb6)
        clear hb6
        cases hs : (unrolled (a ++ b)).isSome
        · have hRx := Lib.hid (show joined ps qs = none by rw [hRR.out, hs]; rfl)
          rw [hs] at he
          subst he
          clear hs
          go_wp2_with fail
          go_ret2
          exact Unrd.no hRx.out hB6.out
        · have hRx := Lib.hid (show joined ps qs = some (a ++ b) by rw [hRR.out, hs]; rfl)
          rw [hs] at he
          subst he
          clear hs
          go_wp2_with fail
          go_ret2
          rw [hRx.out]
          exact ⟨_, rfl, hO6.out, hB6.out⟩
      · have hPa := Lib.hid hpa
        have hRR := Lib.hid (hRp.out hpa)
        clear hpa
        go_enter Try.func40, Try.ntmps40
        go_wp2_with fail
        refine (hC.out).mono ?_
        rw [hU.out]
        rintro e w1 ⟨v, rfl, hown', hb⟩
        have hown : Own w1 w.heap.size v a := hown'
        obtain ⟨A3, c3, hv, hlc, hcm⟩ := hown.form
        subst hv
        have hO := Lib.hid hown
        clear hown hown'
        go_wp2_with fail
        refine (hC2.out _ ((hH2.out.below hb).more hb.size)).mono ?_
        rw [hU2.out]
        rintro e w2 ⟨v2, rfl, hown2, hb2⟩
        have hB := Lib.hid (hb.trans (hb2.mono hb.size))
        have hO1 := Lib.hid (Own.below hO.out hb2)
        clear hown2 hb hb2 hO
        go_wp2_with fail
        refine (passesBeyond_any A3 a.length c3 a _ hO1.out.lst hlen hOk.out).mono ?_
        rw [hPa.out]
        rintro e w3 ⟨rfl, hb3⟩
        have hB3 := Lib.hid (hB.out.trans (hb3.mono hB.out.size))
        clear hb3
        go_wp2_with fail
        go_ret2
        exact Unrd.no hRR.out hB3.out
end Go.Proofs.Ytbjpodgmmpchjaa

namespace Go.Proofs.Ytbjpodgmmpchjaa
set_option maxRecDepth 100000
set_option linter.unusedVariables false
open Go.RowKit

theorem l1Copy_any (A : Option Addr) (n c base : Nat) (os : List St) (w : World) (h : w.ownsRow base 64 7 (.slice A n c) n (flat os)) (hn : n ≤ 1000) :
    Calls Try.prog 78 #[.slice A n c] w fun e w' => ∃ v, e = .returned v ∧ w'.ownsRow w.heap.size 64 7 v n (flat os) ∧ Below w.heap.size w w' := by
  have hO := Lib.hid (World.ownsRow.alloc h (.cells #[] 64))
  have hN := Lib.hid (show (w.alloc (.cells #[] 64)).ownsRow w.heap.size 64 7 (.slice (some ⟨w.heap.size, 0, none⟩) 0 0) 0 [] from
    ⟨rfl, .inr ⟨w.heap.size, 0, #[], rfl, Nat.le_refl _, Has.new w _ _, Nat.le_refl _, Nat.zero_le _, rfl, rfl⟩⟩)
  clear h
  obtain ⟨i0, hi0, hz0, hz1', hz2'⟩ := info_parts info_stmt
  have hB : Below w.heap.size w (w.alloc (.cells #[] 64)) := (Below.refl _ _).alloc (Nat.le_refl _) _
  go_enter Try.func78, Try.ntmps78
  go_wp2_with (at_builtin; refine wpList_append_rows rfl (.tmp 5) (.tmp 6) 26 rfl w.heap.size 64 i0 _ 7 56 Try.underlying26 hi0 hz0 hz1' hz2' rfl (by decide) (.slice (some ⟨w.heap.size, 0, none⟩) 0 0) 0 [] rfl (by exact hN.out) _ (.slice A n c) n (flat os) rfl (by exact hO.out) (flat_one os) (by unfold maxLen; omega) (by omega) (by simp) ?_; intro v' w4 hown4 hgrow4 hblk)
  obtain ⟨A5, c5, hv5, hl5, hm5⟩ := owns_form hown4
  subst hv5
  have hf := Lib.hid (show w4.ownsRow w.heap.size 64 7 (.slice A5 (0 + n) c5) n (flat os) from by simpa using hown4)
  have hB4 := Lib.hid (hB.grown hgrow4 (by simp) (fun k hk => by
    have h1 : w.heap.size = k := by simpa [Value.ownBlock] using hk
    omega))
  clear hown4 hgrow4 hblk
  go_wp2
  go_ret
  exact ⟨_, rfl, hf.out, hB4.out⟩

set_option maxHeartbeats 2000000 in
theorem specJoined_any (A A2 : Option Addr) (n c n2 c2 : Nat) (ps qs : List St) (w : World) (h : Lst w w.heap.size A n ps) (h2 : Lst w w.heap.size A2 n2 qs) (hn : n ≤ c) (hc : c ≤ maxLen) (hn2 : n2 ≤ c2) (hc2 : c2 ≤ maxLen) (hbig : n ≤ 1048576) (hbig2 : n2 ≤ 1048576) :
    Calls Try.prog 41 #[.slice A n c, .slice A2 n2 c2] w (Unrd w (joined ps qs)) := by
  have hC := Lib.hid (l1Unrolled_any A n c ps w h hn hc hbig)
  have hC2 := Lib.hid (fun wx hx => l1Unrolled_any A2 n2 c2 qs wx hx hn2 hc2 hbig2)
  have hH2 := Lib.hid h2
  clear h h2 hc hc2
  cases hu : unrolled ps with
  | none =>
    have hU := Lib.hid hu
    have hR := Lib.hid (joined_no1 (qs := qs) hu)
    clear hu
    go_enter Try.func41, Try.ntmps41
    go_wp2_with fail
    refine (hC.out).mono ?_
    rw [hU.out]
    rintro e w1 ⟨v, rfl, hown, hb⟩
    clear hown
    go_wp2_with fail
    refine (hC2.out _ ((hH2.out.below hb).more hb.size)).mono ?_
    rintro e w2 ⟨v2, rfl, hown2, hb2⟩
    have hB := Lib.hid (hb.trans (hb2.mono hb.size))
    clear hown2 hb hb2
    go_wp2_with fail
    go_ret2
    exact Unrd.no hR.out hB.out
  | some a =>
    obtain ⟨_, hlen, _, _, hOK⟩ := unrolled_parts hu
    have hU := Lib.hid hu
    have hOk := Lib.hid hOK
    clear hOK
    cases hu2 : unrolled qs with
    | none =>
      have hU2 := Lib.hid hu2
      have hR := Lib.hid (joined_no2 (ps := ps) hu2)
      clear hu hu2
      go_enter Try.func41, Try.ntmps41
      go_wp2_with fail
      refine (hC.out).mono ?_
      rw [hU.out]
      rintro e w1 ⟨v, rfl, hown, hb⟩
      clear hown
      go_wp2_with fail
      refine (hC2.out _ ((hH2.out.below hb).more hb.size)).mono ?_
      rw [hU2.out]
      rintro e w2 ⟨v2, rfl, hown2, hb2⟩
      have hB := Lib.hid (hb.trans (hb2.mono hb.size))
      clear hown2 hb hb2
      go_wp2_with fail
      go_ret2
      exact Unrd.no hR.out hB.out
    | some b =>
      obtain ⟨_, hlen2, _, _, _⟩ := unrolled_parts hu2
      have hU2 := Lib.hid hu2
      have hRp := Lib.hid (fun hp => joined_past hu hu2 hp)
      have hRb := Lib.hid (fun hp => joined_both hu hu2 hp)
      clear hu hu2
      obtain ⟨i0, hi0, hz0, hz1', hz2'⟩ := info_parts info_stmt
      go_enter Try.func41, Try.ntmps41
      go_wp2_with fail
      refine (hC.out).mono ?_
      rw [hU.out]
      rintro e w1 ⟨v, rfl, hown', hb⟩
      have hown : Own w1 w.heap.size v a := hown' a rfl
      obtain ⟨A3, c3, hv, hlc, hcm⟩ := hown.form
      subst hv
      have hO := Lib.hid hown
      clear hown hown'
      generalize hm : a.length = m at hlen hlc ⊢
      have hM := Lib.hid hm
      replace hO := Lib.hid (show w1.ownsRow w.heap.size 64 7 (.slice A3 m c3) m (flat a) from by
        have := hO.out
        unfold Own at this
        rwa [hm] at this)
      clear hm
      go_wp2_with fail
      refine (hC2.out _ ((hH2.out.below hb).more hb.size)).mono ?_
      rw [hU2.out]
      rintro e w2 ⟨v2, rfl, hown2', hb2⟩
      have hown2 : Own w2 w1.heap.size v2 b := hown2' b rfl
      obtain ⟨A4, c4, hv, hlc4, hcm4⟩ := hown2.form
      subst hv
      have hB := Lib.hid (hb.trans (hb2.mono hb.size))
      have hO2 := Lib.hid hown2
      have hO1' := Lib.hid (owns_but hO.out (KeptBut.of_below hb2 (fun _ => False)) (fun _ _ h => h))
      have hL1 := Lib.hid (ownS_lst hO1'.out)
      clear hown2 hown2' hb hb2 hO
      go_wp2_with fail
      go_loopw [10] (fun i wr => ∃ k : Nat, k ≤ m ∧ i = .int .i64 k ∧ (∀ (j : Nat) (s : St), j < k → a[j]? = some s → s.past m j = false) ∧ ∃ q, wr = w2.drewN q) (fun i _ => m - (intOf i).toNat)
      case atStart => exact ⟨0, Nat.zero_le _, rfl, fun j s hj => absurd hj (by omega), 0, rfl⟩
      case round =>
        obtain ⟨k, hk, rfl, hno, q, rfl⟩ := hrel
        have hNo := Lib.hid hno
        clear hno
        by_cases hlt : k < m
        · obtain ⟨g, off, s, rfl, hg, hs, hat⟩ := hL1.out.at_ hlt
          obtain ⟨c0, c1, c2', c3', c4', c5, c6⟩ := hat.open_
          have hS := Lib.hid hs
          have hrg := ok_rng (List.all_eq_true.1 hOk.out s (List.mem_of_getElem? hs))
          have hk0 : (0 : Int) ≤ (k : Int) := Int.natCast_nonneg _
          have hk1 : (k : Int) < (m : Int) := by omega
          clear hs hat
          by_cases h6 : s.k = 6
          · have hb12 : 1 ≤ s.b ∧ s.b ≤ 12 := by omega
            have h6b : (s.k == 6) = true := by simpa using h6
            by_cases hp : (m : Int) < k + 1 + s.b
            · have hR := Lib.hid (hRp.out (show past a = true from pastFrom_yes hS.out (by unfold St.past; rw [h6b, hM.out]; simp; omega)))
              clear h6 hrg
              go_wp2_with fail
              go_ret2
              exact Unrd.no hR.out (below_drewN hB.out _)
            · have hR := Lib.hid (show s.past m k = false by unfold St.past; rw [h6b]; simp; omega)
              clear h6 hrg
              go_wp2_with fail
              go_roundw
              case rel => exact ⟨k + 1, by omega, by go_num, fun j q hj hq => by
                by_cases hjk : j = k
                · subst hjk
                  rw [Option.some.inj (hq.symm.trans hS.out)]
                  exact hR.out
                · exact hNo.out j q (by omega) hq, q, rfl⟩
              case measure => (simp [intOf]; try omega)
          · have h6b : (s.k == 6) = false := by simpa using h6
            have hR := Lib.hid (show s.past m k = false by unfold St.past; rw [h6b]; rfl)
            clear h6 hrg
            go_wp2_with fail
            go_roundw
            case rel => exact ⟨k + 1, by omega, by go_num, fun j q hj hq => by
              by_cases hjk : j = k
              · subst hjk
                rw [Option.some.inj (hq.symm.trans hS.out)]
                exact hR.out
              · exact hNo.out j q (by omega) hq, q, rfl⟩
            case measure => (simp [intOf]; try omega)
        · obtain rfl : m = k := by omega
          have hRR := Lib.hid (hRb.out (show past a = false from by
            unfold past
            rw [hM.out]
            exact pastFrom_no (fun j s hs => by rw [Nat.zero_add]; exact hNo.out j s (by have := (List.getElem?_eq_some_iff.1 hs).1; have := hM.out; omega) hs)))
          go_wp2_with fail
          refine (l1Copy_any A3 m c3 w.heap.size a (w2.drewN q) (by exact hO1'.out) (by omega)).mono ?_
          rintro e w3 ⟨v3, rfl, hown3, hb3⟩
          obtain ⟨A6, c6, hv6, _, _⟩ := owns_form hown3
          subst hv6
          have hb3' : Below w2.heap.size w2 w3 := (below_drewN (Below.refl _ _) q).trans hb3
          have hB3 := Lib.hid (hB.out.trans (hb3'.mono hB.out.size))
          have hz3 := hB3.out.size
          have hO3 := Lib.hid (owns_le hown3 (show w.heap.size ≤ (w2.drewN q).heap.size from hB.out.size))
          have hO23 := Lib.hid (Own.below hO2.out hb3')
          clear hown3 hb3 hb3'
          go_wp2_with (at_builtin; refine wpList_append_rows rfl (.tmp 54) (.tmp 55) 26 rfl w.heap.size 64 i0 _ 7 56 Try.underlying26 hi0 hz0 hz1' hz2' rfl (by decide) (.slice A6 m c6) m (flat a) rfl (by exact hO3.out) _ (.slice A4 b.length c4) b.length (flat b) rfl (by exact hO23.out) (flat_one b) (by unfold maxLen; omega) (by omega) (by omega) ?_; intro v' w4 hown4 hgrow4 _)
          obtain ⟨A5, c5, hv5, hl5, hm5⟩ := owns_form hown4
          subst hv5
          have hfin : Own w4 w.heap.size (.slice A5 (m + b.length) c5) (a ++ b) := by
            unfold Own
            rw [List.length_append, flat_append, hM.out]
            exact hown4
          have hO5 := Lib.hid hfin
          have hB5 := Lib.hid (hB3.out.grown hgrow4 hz3 (fun k hk => (World.ownsRow.lt hO3.out k hk).1))
          have hlst5 := Lib.hid (show Lst w4 w4.heap.size A5 (m + b.length) (a ++ b) from by
            have h5 := hfin
            rw [← hM.out, ← List.length_append] at h5
            have := h5.lst
            rwa [List.length_append, hM.out] at this)
          clear hfin hown4 hgrow4 hO3 hO23
          go_wp2_with fail
          refine (specProgramOk_any A5 (m + b.length) c5 (a ++ b) _ hlst5.out hl5 hm5 (by omega)).mono ?_
          rintro e w6 ⟨he, hb6⟩
          have hB6 := Lib.hid (hB5.out.trans (hb6.mono hB5.out.size))
          have hO6 := Lib.hid (Own.below hO5.out hb6)
          clear hb6
          cases hs : (unrolled (a ++ b)).isSome
          · have hRx := Lib.hid (show joined ps qs = none by rw [hRR.out, hs]; rfl)
            rw [hs] at he
            subst he
            clear hs
            go_wp2_with fail
            go_ret2
            exact Unrd.no hRx.out hB6.out
          · have hRx := Lib.hid (show joined ps qs = some (a ++ b) by rw [hRR.out, hs]; rfl)
            rw [hs] at he
            subst he
            clear hs
            go_wp2_with fail
            go_ret2
            rw [hRx.out]
            exact ⟨_, rfl, hO6.out, hB6.out⟩
end Go.Proofs.Ytbjpodgmmpchjaa
