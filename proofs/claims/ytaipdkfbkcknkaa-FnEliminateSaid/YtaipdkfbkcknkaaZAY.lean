/- Parts of the proof: KB. -/
import Derived.Test.YtaipdkfbkcknkaaZAX
namespace Go.Proofs.Ytaipdkfbkcknkaa
set_option maxRecDepth 100000
set_option linter.unusedVariables false
open Go.RowKit
/-- All orders that begin with some variables, f further ones long. -/
def rw_ : Nat → List Nat → List (List Nat)
  | 0, p => [p]
  | f + 1, p => (List.range 4).flatMap fun v => if p.contains v then [] else rw_ f (p ++ [v])
def rwp (f : Nat) (p : List Nat) (k : Nat) : List (List Nat) := (List.range k).flatMap fun v => if p.contains v then [] else rw_ f (p ++ [v])
theorem rwp_succ (f : Nat) (p : List Nat) (k : Nat) : rwp f p (k + 1) = rwp f p k ++ if p.contains k then [] else rw_ f (p ++ [k]) := by
  unfold rwp
  rw [List.range_succ, List.flatMap_append]
  simp
theorem rw_perms : rw_ 4 [] = perms := by decide +kernel
theorem rw_len : ∀ (f : Nat) (p : List Nat), (rw_ f p).length ≤ 4 ^ f
  | 0, p => by simp [rw_]
  | f + 1, p => by
    have h : ∀ k, (rwp f p k).length ≤ k * 4 ^ f := by
      intro k
      induction k with
      | zero => simp [rwp]
      | succ k ih =>
        rw [rwp_succ, List.length_append, Nat.succ_mul]
        have := rw_len f (p ++ [k])
        split
        · simp; omega
        · omega
    have := h 4
    show (rwp f p 4).length ≤ 4 ^ (f + 1)
    rw [Nat.pow_succ, Nat.mul_comm]
    exact this
theorem rwp_len (f : Nat) (p : List Nat) : ∀ k, (rwp f p k).length ≤ k * 4 ^ f
  | 0 => by simp [rwp]
  | k + 1 => by
    have ih := rwp_len f p k
    have := rw_len f (p ++ [k])
    rw [rwp_succ, List.length_append, Nat.succ_mul]
    split
    · simp; omega
    · omega
theorem RowsV.appends_ {w w' : World} {base : Nat} {v v' : Value} {rs ss : List (List Int)} {vs us : List Value} (h : RowsV w base v rs vs) (hs : ∀ (i : Nat) (x : Value), us[i]? = some x → ∃ ds, ss[i]? = some ds ∧ IOwn w base x ds) (hl : us.length = ss.length)
    (hN : w'.ownsRow base 22 1 v' (rs.length + ss.length) (vs ++ us)) (hg : w.grownBy w' v.ownBlock) : RowsV w' base v' (rs ++ ss) (vs ++ us) := by
  have hk : KeptBut w w' (fun i => v.ownBlock = some i) := KeptBut.of_grown hg fun k e => e
  have hrow : ∀ y es, IOwn w base y es → IOwn w' base y es := fun y es hy => hy.but hk fun k hkb e => by
    obtain ⟨c1, h1⟩ := owns_has hy hkb
    obtain ⟨c2, h2⟩ := owns_has h.1 e
    exact has_ne h1 h2 int_ne rfl
  have hvl := h.length
  refine ⟨by rw [List.length_append]; exact hN, fun i y hy => ?_⟩
  by_cases hi : i < vs.length
  · rw [List.getElem?_append_left hi] at hy
    obtain ⟨es, he, ho⟩ := h.2 i y hy
    exact ⟨es, by rw [List.getElem?_append_left (by omega)]; exact he, hrow y es ho⟩
  · rw [List.getElem?_append_right (by omega)] at hy
    obtain ⟨es, he, ho⟩ := hs _ y hy
    exact ⟨es, by rw [List.getElem?_append_right (by omega), ← hvl]; exact he, hrow y es ho⟩
theorem RowsV.below {w w' : World} {base : Nat} {v : Value} {rs : List (List Int)} {vs : List Value} (h : RowsV w base v rs vs) (hb : Below w.heap.size w w') : RowsV w' base v rs vs :=
  h.but (KeptBut.of_below hb (fun _ => False)) (fun _ _ e => e) (fun _ _ _ _ _ e => e)
theorem iown_nil_cap {w : World} {base n c : Nat} {A : Option Addr} {ds : List Int} (h : IOwn w base (.slice A n c) ds) : A = none → c = 0 := fun e => by
  rcases h.2 with ⟨hv, _⟩ | ⟨g, cap, cur, hv, _⟩
  · injection hv
  · rw [e] at hv; cases hv
def Rwd (w : World) (base : Nat) (rs : List (List Int)) (e : Ending) (w' : World) : Prop := ∃ v vs, e = .returned v ∧ RowsV w' base v rs vs ∧ Below w.heap.size w w'
theorem rows_one {w : World} {base g : Nat} {x : Value} {ds : List Int} (h : Has w g 22 #[x]) (hg : base ≤ g) (hx : IOwn w base x ds) : RowsV w base (.slice (some ⟨g, 0, none⟩) 1 1) [ds] [x] := by
  refine ⟨⟨rfl, .inr ⟨g, 1, #[x], rfl, hg, h, Nat.le_refl _, by decide, rfl, rfl⟩⟩, fun i y hy => ?_⟩
  have hi := (List.getElem?_eq_some_iff.1 hy).1
  simp at hi
  subst hi
  have : x = y := by simpa using hy
  subst this
  exact ⟨ds, rfl, hx⟩
theorem info_row9 : (Try.prog.info? 22).map (fun i => (i.zero, i.size, i.bytes)) = some (some (.slice none 0 0), 1, 24) := by kernel_rfl
theorem wpList_append_rlst {w : World} {ops : Array Oper} {rest : List Oper} {o : Oper} {a : Act} {Q : Exit → Act → World → Prop} (hgd : o.guard = none) (s x : Operand)
    (ho : o.op = .call { callee := .builtin .append, args := #[s, x], argTypes := #[84, 84] })
    (base b2 : Nat) (v : Value) (m : Nat) (xs : List Value) (hs : a.eval s = v) (hown : w.ownsRow base 22 1 v m xs)
    (A : Option Addr) (n cap : Nat) (ys : List Value) (hx : a.eval x = .slice A n cap) (hR : w.ownsRow b2 22 1 (.slice A n cap) n ys) (h1 : ∀ u ∈ ys, u.oneCell' = true)
    (h63 : m + n ≤ 1000000) (hbase : base ≤ w.heap.size)
    (h : ∀ v' w', w'.ownsRow base 22 1 v' (m + n) (xs ++ ys) → w.grownBy w' v.ownBlock → wpList Try.prog ops Q rest (a.put o.dst v') w') :
    wpList Try.prog ops Q (o :: rest) a w := by
  obtain ⟨i0, hi0, hz0, hz1', hz2'⟩ := info_parts info_row9
  have hl := hR.1
  rcases hR.2 with ⟨hv, hn⟩ | ⟨g, cap', cur, hv, _⟩
  · injection hv with e1 e2 e3
    subst e1 e2 e3
    have hys : ys = [] := List.eq_nil_of_length_eq_zero (by omega)
    subst hys
    refine wpList_append_own_none hgd s x _ ho base 22 i0 1 Try.underlying84 hi0 v m xs hs hown hx (h v w ?_ (World.grownBy.refl w _))
    simpa using hown
  · injection hv with e1 e2 e3
    subst e1
    refine wpList_append_own _ hgd s x _ ho base 22 i0 _ 1 24 Try.underlying84 hi0 hz0 hz1' hz2' rfl (by decide) v m xs hs hown ⟨g, 0, none⟩ n cap ys hx hl (fun j u hu => World.ownsRow.cells hR (g := g) rfl j u hu) h1 (by unfold maxLen; omega) (by omega) hbase (fun v' w' q1 q2 _ => h v' w' q1 q2)
theorem RowsV.one {w : World} {base : Nat} {v : Value} {rs : List (List Int)} {vs : List Value} (h : RowsV w base v rs vs) : ∀ u ∈ vs, u.oneCell' = true := fun u hu => by
  obtain ⟨i, hi, rfl⟩ := List.getElem_of_mem hu
  obtain ⟨ds, _, ho⟩ := h.2 i _ (List.getElem?_eq_getElem hi)
  obtain ⟨A, c, e, _, _⟩ := IOwn.form ho
  rw [e]; rfl
set_option maxHeartbeats 4000000 in
theorem l9Rows_any : ∀ (f : Nat) (p : List Nat), p.length + f = 4 → ∀ (A : Option Addr) (c base : Nat) (w : World), IOwn w base (.slice A p.length c) (nats p) → base ≤ w.heap.size →
    Calls Try.prog 76 #[.slice A p.length c] w (Rwd w base ((rw_ f p).map nats))
  | 0, p, hp, A, c, base, w, h, hb => by
    have hp4 : p.length = 4 := by omega
    have hI := Lib.hid (show IOwn w base (.slice A 4 c) (nats p) by rw [← hp4]; exact h)
    have hB := Lib.hid hb
    rw [hp4]
    have hX := Lib.hid (show RowsV (w.alloc (.cells #[.slice A 4 c] 22)) base (.slice (some ⟨w.heap.size, 0, none⟩) 1 1) ((rw_ 0 p).map nats) [.slice A 4 c] from
      rows_one (Has.new w _ _) hb (hI.out.alloc _))
    have hBn := Lib.hid (show Below w.heap.size w (w.alloc (.cells #[.slice A 4 c] 22)) from (Below.refl _ _).alloc (Nat.le_refl _) _)
    clear h hb hp hp4
    go_enter Try.func76, Try.ntmps76
    go_wp2_with fail
    go_ret
    exact ⟨_, _, rfl, hX.out, hBn.out⟩
  | f + 1, p, hp, A, c, base, w, h, hb => by
    have ih := Lib.hid (fun v => l9Rows_any f (p ++ [v]) (by rw [List.length_append]; show p.length + 1 + f = 4; omega))
    obtain ⟨i0, hi0, hz0, hz1', hz2'⟩ := info_parts info_int
    obtain ⟨j0, hj0, jz0, jz1, jz2⟩ := info_parts info_row9
    have hmem := Lib.hid (fun v : Nat => @nats_mem p v)
    have hlen := Lib.hid (nats_len p)
    have hrs := Lib.hid (fun k => rwp_succ f p k)
    have hrl := Lib.hid (fun k => rwp_len f p k)
    have hrw := Lib.hid (fun v => rw_len f (p ++ [v]))
    have hf3 : f ≤ 3 := by omega
    have h4f : 4 ^ f ≤ 64 := by
      have := Nat.pow_le_pow_right (n := 4) (by decide) hf3
      exact this
    have hfin := Lib.hid (show rw_ (f + 1) p = rwp f p 4 from rfl)
    rw [hfin.out]
    have hapl := Lib.hid (fun v => show (p ++ [v]).length = p.length + 1 from by rw [List.length_append]; rfl)
    have hapn := Lib.hid (fun v => nats_append p v)
    have hp3 : p.length ≤ 3 := by omega
    have hne : ((p.length : Int) == 4) = false := by
      have : (p.length : Int) ≠ 4 := by omega
      simpa using this
    generalize hN : p.length = n at *
    have hI := Lib.hid h
    have hcap := Lib.hid (iown_nil_cap h)
    have hbh := Lib.hid hb
    have hO0 := Lib.hid (show RowsV (w.alloc (.cells #[] 22)) base (.slice (some ⟨w.heap.size, 0, none⟩) 0 0) ((rwp f p 0).map nats) [] from
      ⟨⟨rfl, .inr ⟨w.heap.size, 0, #[], rfl, hb, Has.new w _ _, Nat.le_refl _, Nat.zero_le _, rfl, rfl⟩⟩, fun i x hx => by simp at hx⟩)
    have hOw0 := Lib.hid (show (w.alloc (.cells #[] 22)).ownsRow w.heap.size 22 1 (.slice (some ⟨w.heap.size, 0, none⟩) 0 0) ((rwp f p 0).map nats).length [] from
      ⟨rfl, .inr ⟨w.heap.size, 0, #[], rfl, Nat.le_refl _, Has.new w _ _, Nat.le_refl _, Nat.zero_le _, rfl, rfl⟩⟩)
    have hB0 := Lib.hid (show Below w.heap.size w (w.alloc (.cells #[] 22)) from (Below.refl _ _).alloc (Nat.le_refl _) _)
    clear h hb hp hfin hN
    go_enter Try.func76, Try.ntmps76
    go_wp2_with fail
    generalize w.alloc (.cells #[] 22) = W at hO0 hOw0 hB0 ⊢
    go_loopg [3, 4] 4 (fun gq l x wr => ∃ (k : Nat) (vs : List Value), k ≤ 4 ∧ gq = 4 - k ∧ x = .int .i64 k ∧ RowsV wr base l ((rwp f p k).map nats) vs ∧ wr.ownsRow w.heap.size 22 1 l ((rwp f p k).map nats).length vs ∧ Below w.heap.size w wr)
    case atStart => exact ⟨0, [], Nat.zero_le _, rfl, rfl, hO0.out, hOw0.out, hB0.out⟩
    case round =>
      obtain ⟨k, vs, hk, hgn, rfl, hR, hOw, hB⟩ := hrel
      have hgk : gk = 4 - k := hgn
      clear hgn
      obtain ⟨m, hm⟩ : ∃ m, ((rwp f p k).map nats).length = m := ⟨_, rfl⟩
      have hml : m ≤ 256 := by
        have h1 := hrl.out k
        have h2 := Nat.mul_le_mul hk h4f
        rw [List.length_map] at hm
        omega
      obtain ⟨Al, cl, rfl, _, _⟩ := hR.form
      rw [hm]
      have hmh := Lib.hid hm
      rw [hm] at hR hOw
      have kR := Lib.hid hR
      have kO := Lib.hid hOw
      have kB := Lib.hid hB
      have kI := Lib.hid (show IOwn wr base (.slice A n c) (nats p) from hI.out.below hB)
      have kIl := Lib.hid (show Ils wr wr.heap.size A n (nats p) from IOwn.lst kI.out)
      have kb := Lib.hid (show base ≤ wr.heap.size from Nat.le_trans hbh.out hB.size)
      clear hR hOw hB hm
      by_cases hlt : k < 4
      · have hk0 : (0 : Int) ≤ (k : Int) := by omega
        have hk4 : (k : Int) < 4 := by omega
        have cH := Lib.hid (l8Has_any A n c (nats p) (k : Int) wr kIl.out (by unfold maxLen; omega))
        have hrk := Lib.hid (hrs.out k)
        by_cases hin : k ∈ p
        · have hd : decide ((k : Int) ∈ nats p) = true := decide_eq_true ((hmem.out k).2 hin)
          have hx := Lib.hid (show rwp f p (k + 1) = rwp f p k by rw [hrk.out, if_pos (by rw [List.contains_eq_mem]; exact decide_eq_true hin), List.append_nil])
          rw [hd] at cH
          clear hin hd
          go_wp2_with fail
          refine cH.out.mono ?_
          rintro e w' ⟨rfl, rfl⟩
          go_wp2_with fail
          go_roundg (4 - (k + 1))
          case measure => omega
          case rel => exact ⟨k + 1, vs, by omega, rfl, by go_num, by rw [hx.out]; exact kR.out, by rw [hx.out, hmh.out]; exact kO.out, kB.out⟩
        · have hd : decide ((k : Int) ∈ nats p) = false := decide_eq_false fun q => hin ((hmem.out k).1 q)
          have hx := Lib.hid (show rwp f p (k + 1) = rwp f p k ++ rw_ f (p ++ [k]) by rw [hrk.out, if_neg (by rw [List.contains_eq_mem]; simpa using hin)])
          rw [hd] at cH
          have hE1 : Below wr.heap.size wr (wr.alloc (.cells #[] 3)) := (Below.refl _ _).alloc (Nat.le_refl _) _
          have kE := Lib.hid (show IOwn (wr.alloc (.cells #[] 3)) wr.heap.size (.slice (some ⟨wr.heap.size, 0, none⟩) 0 0) [] from
            ⟨rfl, .inr ⟨wr.heap.size, 0, #[], rfl, Nat.le_refl _, Has.new wr _ _, Nat.le_refl _, Nat.zero_le _, rfl, rfl⟩⟩)
          have kL1 := Lib.hid (show Ils (wr.alloc (.cells #[] 3)) (wr.alloc (.cells #[] 3)).heap.size A n (nats p) from (kIl.out.below hE1).more hE1.size)
          have kE1 := Lib.hid hE1
          clear hin hd hE1
          go_wp2_with (first
            | (go_at_call 62; refine cH.out.mono ?_; rintro e w' ⟨rfl, rfl⟩)
            | (at_builtin; refine wpList_append_ilst rfl (.tmp 21) (.tmp 22) rfl wr.heap.size _ (.slice (some ⟨wr.heap.size, 0, none⟩) 0 0) 0 [] rfl (by exact kE.out) A n c (nats p) rfl (by exact kL1.out) hcap.out (by omega) (by exact kE1.out.size) ?_))
          intro v4 w4 hown4 hgrow4
          have hB4 : Below wr.heap.size wr w4 := kE1.out.grown hgrow4 kE1.out.size (fun q hq => by
            have : wr.heap.size = q := by simpa [Value.ownBlock] using hq
            omega)
          have hO4 : IOwn w4 wr.heap.size v4 (nats p) := by
            unfold IOwn
            rw [hlen.out]
            exact hown4
          obtain ⟨A4, c4, hv4, _, _⟩ := hO4.form
          subst hv4
          rw [hlen.out] at hO4 ⊢
          have hO5 := Lib.hid (hO4.alloc (.cells #[.int .i64 (k : Int)] 3))
          have hnw := Lib.hid (new_one w4 (.int .i64 (k : Int)) 3)
          have hB5 := Lib.hid (hB4.alloc hB4.size (.cells #[.int .i64 (k : Int)] 3))
          have hO5r := Lib.hid (show (w4.alloc (.cells #[.int .i64 (k : Int)] 3)).ownsRow wr.heap.size 3 1 (.slice A4 n c4) n (ints (nats p)) from by have h9 := hO5.out; unfold IOwn at h9; rwa [hlen.out] at h9)
          clear hown4 hgrow4 hB4 hO4 kE kL1 kE1
          go_wp2_with (at_builtin; refine wpList_append_lies _ rfl (.tmp 25) (.tmp 27) 22 rfl wr.heap.size 3 i0 _ 1 8 Try.underlying22 hi0 hz0 hz1' hz2' rfl (by decide) (.slice A4 n c4) n (ints (nats p)) rfl (by exact hO5r.out) ⟨w4.heap.size, 0, none⟩ 1 1 [.int .i64 (k : Int)] rfl rfl (by exact hnw.out) (by simp [Value.oneCell']) (by omega) (by unfold maxLen; omega) (by omega) (by exact hB5.out.size) (w4.heap.size + 1) (by simp) ?_; intro gr cr2 w6 hown6 hgrow6 hat6 hlt6)
          have hF := IOwn.append_ (news := [(k : Int)]) hO5.out (by rw [hlen.out]; exact hown6) hgrow6 hB5.out (by exact hB5.out.size)
          rw [← hapn.out] at hF
          have hz6 := hF.2.size
          have cR := ih.out k (some ⟨gr, 0, none⟩) cr2 base w6 (by rw [hapl.out]; exact owns_le hF.1 kb.out) (by have := kb.out; omega)
          rw [hapl.out] at cR
          have cRh := Lib.hid cR
          have hB6 := Lib.hid hF.2
          clear hF hown6 hgrow6 hat6 cR hO5r hnw hB5 hO5
          refine cRh.out.mono ?_
          rintro e w7 ⟨v7, vs7, rfl, hR7, hb7⟩
          have hB7 := Lib.hid (hB6.out.trans (hb7.mono hz6))
          have kR7 := Lib.hid (kR.out.below hB7.out)
          have kB7 := Lib.hid (kB.out.trans (hB7.out.mono kB.out.size))
          have hm7 := hrw.out k
          obtain ⟨m7, hm7e⟩ : ∃ m7, ((rw_ f (p ++ [k])).map nats).length = m7 := ⟨_, rfl⟩
          have hm7l : m7 ≤ 64 := by rw [List.length_map] at hm7e; omega
          obtain ⟨A7, c7, rfl, _, _⟩ := hR7.form
          rw [hm7e] at hR7 ⊢
          have hR7h := Lib.hid hR7
          have hO7 := Lib.hid (show w7.ownsRow w.heap.size 22 1 (.slice Al m cl) m vs from owns_but kO.out (KeptBut.of_below hB7.out (fun _ => False)) (fun _ _ e => e))
          have hbw := Lib.hid (show base ≤ w.heap.size from hbh.out)
          have hS7 := Lib.hid (show w7.ownsRow base 22 1 (.slice A7 m7 c7) m7 vs7 from by have h9 := hR7.1; rwa [hm7e] at h9)
          have hm7h := Lib.hid hm7e
          have hbz7 := Lib.hid (show base ≤ w7.heap.size from Nat.le_trans kb.out hB7.out.size)
          clear hb7 hR7 hm7 hm7e
          go_wp2_with (at_builtin; refine wpList_append_rlst rfl (.tmp 24) (.tmp 29) rfl w.heap.size base (.slice Al m cl) m vs rfl (by exact hO7.out) A7 m7 c7 vs7 rfl (by exact hS7.out) hR7h.out.one (by omega) kB7.out.size ?_)
          intro v8 w8 hown8 hgrow8
          have hR8 := Lib.hid (RowsV.appends_ kR7.out hR7h.out.2 hR7h.out.length (by rw [hmh.out, hm7h.out]; exact owns_le hown8 hbw.out) hgrow8)
          have hB8 := Lib.hid (kB7.out.grown hgrow8 kB7.out.size (fun q hq => (World.ownsRow.lt hO7.out q hq).1))
          have hO8 := Lib.hid (show w8.ownsRow w.heap.size 22 1 v8 ((rwp f p (k + 1)).map nats).length (vs ++ vs7) from by rw [hx.out, List.map_append, List.length_append, hmh.out, hm7h.out]; exact hown8)
          rw [← List.map_append, ← hx.out] at hR8
          clear hown8 hgrow8
          go_wp2_with fail
          go_roundg (4 - (k + 1))
          case measure => omega
          case rel => exact ⟨k + 1, _, by omega, rfl, by go_num, hR8.out, hO8.out, hB8.out⟩
      · obtain rfl : k = 4 := by omega
        go_wp2_with fail
        go_ret
        exact ⟨_, _, rfl, kR.out, kB.out⟩
theorem perms_len : perms.length = 24 := by decide +kernel
theorem row_cap {w : World} {base n c : Nat} {A : Option Addr} {ds : List Int} (h : IOwn w base (.slice A n c) ds) : ds.length = n ∧ n ≤ c ∧ c ≤ maxLen := by
  obtain ⟨A9, c9, e9, h9a, h9b⟩ := IOwn.form h
  injection e9 with _ e1 e2
  subst e2
  exact ⟨e1.symm, by omega, h9b⟩
end Go.Proofs.Ytaipdkfbkcknkaa
