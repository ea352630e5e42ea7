/- For every list of bytes: of the drawn program and the drawn draws the program's RunTrace returns what the model's returns; where the run does not end so it is 0 and 0; where it does, one draw more or one fewer does not, and where all traces are told the draws are among them just where the weight is above 0. No condition. -/
import Derived.Test.YtcdajplmheladaaRows
import Derived.Test.YtcdajplmheladaaTrb
import Derived.Test.YtcdajplmheladaaDrV
import Derived.Laws.AppendOwnNone
import Derived.ProofKit
import Derived.OpenShut
import Derived.ShutString
import Derived.ChangeOld
import Derived.Below
namespace Go.Proofs.Ytcdajplmheladaa.fnRunTrace
open Go.ChangeShapes Go.WideShapes Go.ChangeAt Go.RowKit 
set_option linter.unusedVariables false
set_option maxRecDepth 100000

theorem own : ownKnob Try.prog.godebug = none := by kernel_rfl
theorem laidOut : laidOutB Try.prog = true := by kernel_rfl

/-- append onto a row of the call's own, of a row of the call's own. -/
theorem append_rowsR {P : Program} {w : World} {ops : Array Oper} {rest : List Oper} {o : Oper} {a : Act} {Q : Exit → Act → World → Prop} (hgd : o.guard = none) (s x : Operand) (t : TypeId)
    (ho : o.op = .call { callee := .builtin .append, args := #[s, x], argTypes := #[t, t] })
    (base : Nat) (e : TypeId) (i : TypeInfo) (z : Value) (size bytes : Nat) (ht : P.underlying t = some (.slice e)) (hi : P.info? e = some i) (hz : i.zero = some z)
    (hsize : i.size = size) (hby : i.bytes = bytes) (hzs : z.cells.size = size) (hsz : 0 < size)
    (v : Value) (n : Nat) (xs : List Value) (hs : a.eval s = v) (hown : w.ownsRow base e size v n xs)
    (base2 : Nat) (u : Value) (m : Nat) (news : List Value) (hx : a.eval x = u) (hsrc : w.ownsRow base2 e size u m news) (h1 : ∀ u ∈ news, u.oneCell' = true)
    (h63 : n + m ≤ maxLen) (hbytes : (n + m) * bytes ≤ 140737488355328) (hbase : base ≤ w.heap.size)
    (h : ∀ v' w', w'.ownsRow base e size v' (n + m) (xs ++ news) → w.grownBy w' v.ownBlock → (v'.ownBlock = v.ownBlock ∨ v'.ownBlock = some w.heap.size) → wpList P ops Q rest (a.put o.dst v') w') :
    wpList P ops Q (o :: rest) a w := by
  rcases hsrc.2 with ⟨hv, hm⟩ | ⟨g, cap, cur, hv, hg, hh, h2, h3, h4, h5⟩
  · subst hm
    have hn : news = [] := List.eq_nil_of_length_eq_zero (by rw [hsrc.1, Nat.zero_mul])
    subst hn
    refine wpList_append_own_none hgd s x t ho base e i size ht hi v n xs hs hown (by rw [hx, hv]) (h v w ?_ (World.grownBy.refl w _) (.inl rfl))
    simpa using hown
  · refine wpList_append_own_at w hgd s x t ho base e i z size bytes ht hi hz hsize hby hzs hsz v n xs hs hown ⟨g, 0, none⟩ m cap news (by rw [hx, hv]) hsrc.1 ?_ h1 h63 hbytes hbase (fun v' w' a1 a2 _ a4 => h v' w' a1 a2 a4)
    intro j q hq
    have e1 : ((⟨g, 0, none⟩ : Addr).add j) = ⟨g, j, none⟩ := by
      unfold Addr.add
      split
      · (rename_i h0; simp at h0 ⊢; try omega)
      · (simp; try omega)
    rw [e1, cell_of_row w g j cur e (0, 0) hh]
    rw [← h5, List.getElem?_take] at hq
    split at hq
    · simpa using hq
    · cases hq

theorem longer_no {ps : List St} {ds : List Int} {p : Int × Int} (h : runTrace ps ds = some p) : runTrace ps (ds ++ [0]) = none := by
  unfold runTrace at h ⊢
  obtain ⟨os, hu, hr⟩ := Option.bind_eq_some_iff.1 h
  rw [hu]
  exact run_longer _ _ _ _ _ _ _ hr
theorem shorter_no {ps : List St} {ds : List Int} {p : Int × Int} (h : runTrace ps ds = some p) (h0 : ds ≠ []) : runTrace ps ds.dropLast = none := by
  unfold runTrace at h ⊢
  obtain ⟨os, hu, hr⟩ := Option.bind_eq_some_iff.1 h
  rw [hu]
  exact run_shorter hr h0
theorem rows_len (ps : List St) : (rowsT (tracesOf ps)).length ≤ 531441 := by
  unfold rowsT
  rw [List.length_map]
  cases ht : tracesOf ps with
  | none => simp
  | some ls =>
    unfold tracesOf at ht
    obtain ⟨os, hu, hs⟩ := Option.bind_eq_some_iff.1 ht
    obtain ⟨_, hlen, _, _, _⟩ := unrolled_parts hu
    split at hs
    · have hs' : traces os = ls := Option.some.inj hs
      subst hs'
      exact traces_len hlen
    · cases hs
theorem has_iff {ps : List St} {ds : List Int} {st wt : Int} (h : runTrace ps ds = some (st, wt)) (ht : (tracesOf ps).isSome = true) : decide (ds ∈ rowsT (tracesOf ps)) = decide (0 < wt) := by
  cases he : tracesOf ps with
  | none => rw [he] at ht; cases ht
  | some ls =>
    unfold tracesOf at he
    obtain ⟨os, hu, hs⟩ := Option.bind_eq_some_iff.1 he
    obtain ⟨_, _, _, _, hOK⟩ := unrolled_parts hu
    have hr : runR os ⟨0, 0, 1⟩ ds = some (st, wt) := by
      unfold runTrace at h
      rw [hu] at h
      exact h
    split at hs
    · have hs' : traces os = ls := Option.some.inj hs
      subst hs'
      show decide (ds ∈ (traces os).map fun l => l.1) = _
      by_cases h0 : wt = 0
      · subst h0
        rw [decide_eq_false (p := (0 : Int) < 0) (by decide), decide_eq_false]
        intro hm
        obtain ⟨l, hl, rfl⟩ := List.mem_map.1 hm
        have h2 := traces_iff.1 hl
        rw [hr] at h2
        have h3 : (st, (0 : Int)) = l.2 := Option.some.inj h2.1
        exact h2.2 (by rw [← h3])
      · have hm : ((ds, st, wt) : Leaf) ∈ traces os := traces_iff.2 ⟨hr, h0⟩
        have h1 := (traces_fit (fun s hs => List.all_eq_true.1 hOK s hs) hm).2.1
        rw [decide_eq_true h1, decide_eq_true]
        exact List.mem_map.2 ⟨_, hm, rfl⟩
    · cases hs
theorem rowsV_below' {w w' : World} {base : Nat} {v : Value} {rs : List (List Int)} {vs : List Value} (h : RowsV w base v rs vs) (hb : Below w.heap.size w w') : RowsV w' base v rs vs :=
  h.but (KeptBut.of_below hb (fun _ => False)) (fun _ _ h => h) (fun _ _ _ _ _ h => h)
theorem take_has {rs : List (List Int)} {ds es : List Int} {k : Nat} (h : rs[k]? = some es) : decide (ds ∈ rs.take (k + 1)) = (decide (ds ∈ rs.take k) || decide (es = ds)) := by
  obtain ⟨hl, he⟩ := List.getElem?_eq_some_iff.1 h
  rw [List.take_succ_eq_append_getElem hl, he]
  by_cases h1 : ds ∈ rs.take k
  · simp [h1]
  · by_cases h2 : es = ds
    · subst h2; simp
    · have h3 : ¬ ds = es := fun e => h2 e.symm
      simp [h1, h2, h3]

set_option maxHeartbeats 4000000 in
theorem walk {H : Type} (enc : TypeId × Value → H) (W : World) (base : Nat) (v0 : Value) (d0 : DataW H) (p0 : List MemPlace) (hv0 : Value.okWide Try.prog W .any base 35 v0)
    (h0 : DataW.Trod enc Try.prog W 0 (fun _ => true) true 35 v0 d0 p0) (_ : ∀ x ∈ p0, x.block < W.heap.size) :
    Calls Try.prog 5 #[v0] W fun e w' => e = .returned (.bool true) ∧ Below W.heap.size W w' := by
  obtain ⟨A, n, c, rfl, hn, hc, hb⟩ := open_bytes hv0 h0
  clear hv0 h0
  have hcM := Lib.hid hc
  have hnn : n ≤ 9223372036854775807 := by unfold maxLen at hc; omega
  clear hc
  by_cases h1 : 1048576 < n
  · go_enter Try.func5, Try.ntmps5
    go_wp2_with fail
    go_ret
    exact ⟨rfl, Below.refl _ _⟩
  go_enter Try.func5, Try.ntmps5
  go_wp2_with fail
  refine (DrawRunTrace_any A n c _ hb hn hcM.out).mono ?_
  rintro e w1 ⟨v, u, ps, ds, rfl, hO, hl11, hI, hd12, hB1⟩
  obtain ⟨A1, c1, hv, hlc, hcm⟩ := hO.form
  subst hv
  obtain ⟨A2, c2, hv, hlc2, hcm2⟩ := hI.form
  subst hv
  have hP := Lib.hid hO.lst
  have hD := Lib.hid hI
  have hB1' := Lib.hid hB1
  have hbg : ps.length ≤ 1048576 := by omega
  have hplen : ps.length ≤ 9223372036854775807 := by omega
  have hdm : ds.length ≤ maxLen := by unfold maxLen; omega
  have cR := Lib.hid (fun A2 n2 c2 ds wx (hx : Lst wx wx.heap.size A1 ps.length ps) h2 hn2 => RunTrace_any A1 A2 ps.length c1 n2 c2 ps ds wx hx hlc hcm h2 hn2)
  have cS := Lib.hid (fun A2 n2 c2 ds wx (hx : Lst wx wx.heap.size A1 ps.length ps) h2 hn2 => specRunTrace_any A1 A2 ps.length c1 n2 c2 ps ds wx hx hlc hcm hbg h2 hn2)
  have cT := Lib.hid (fun wx (hx : Lst wx wx.heap.size A1 ps.length ps) => TracesOf_any A1 ps.length c1 ps wx hx hlc hcm)
  unfold TrOa at cT
  unfold RTd at cR cS
  have hrl := rows_len ps
  clear hO hI hB1 hb hlc hcm
  cases hr : runTrace ps ds with
  | none =>
    have hRt := Lib.hid hr
    clear hr
    go_wp2_with fail
    refine (cR.out _ _ _ ds _ hP.out hD.out.lst hdm).mono ?_
    rw [hRt.out]
    rintro e w2 ⟨rfl, hb2⟩
    have hB2 := Lib.hid (hB1'.out.trans (hb2.mono hB1'.out.size))
    have hP2 := Lib.hid ((hP.out.below hb2).more hb2.size)
    have hD2 := Lib.hid ((hD.out.lst.below hb2).more hb2.size)
    clear hb2
    go_wp2_with fail
    refine (cS.out _ _ _ ds _ hP2.out hD2.out hdm).mono ?_
    rw [hRt.out]
    rintro e w3 ⟨rfl, hb3⟩
    have hB3 := Lib.hid (hB2.out.trans (hb3.mono hB2.out.size))
    clear hb3
    go_wp2_with fail
    go_ret
    exact ⟨rfl, hB3.out⟩
  | some p =>
    obtain ⟨st, wt⟩ := p
    have hRt := Lib.hid hr
    have hLo := Lib.hid (longer_no hr)
    have hSh := Lib.hid (fun h0 => shorter_no hr h0)
    have hHi := Lib.hid (fun ht => has_iff hr ht)
    have hNo := Lib.hid (show (tracesOf ps).isSome = false → rowsT (tracesOf ps) = [] from fun h => by
      cases he : tracesOf ps with
      | none => rfl
      | some _ => rw [he] at h; cases h)
    generalize rowsT (tracesOf ps) = rs at cT hHi hrl hNo
    generalize (tracesOf ps).isSome = ok at cT hHi hNo
    clear hr
    have n1 : (st != st) = false := by simp
    have n2 : (wt != wt) = false := by simp
    obtain ⟨i0, hi0, hz0, hz1', hz2'⟩ := info_parts info_int
    go_wp2_with fail
    refine (cR.out _ _ _ ds _ hP.out hD.out.lst hdm).mono ?_
    rw [hRt.out]
    rintro e w2 ⟨rfl, hb2⟩
    have hB2 := Lib.hid (hB1'.out.trans (hb2.mono hB1'.out.size))
    have hP2 := Lib.hid ((hP.out.below hb2).more hb2.size)
    have hD2 := Lib.hid (hD.out.below hb2)
    clear hb2
    go_wp2_with fail
    refine (cS.out _ _ _ ds _ hP2.out hD2.out.lst hdm).mono ?_
    rw [hRt.out]
    rintro e w3 ⟨rfl, hb3⟩
    have hB3 := Lib.hid (hB2.out.trans (hb3.mono hB2.out.size))
    have hP3 := Lib.hid ((hP2.out.below hb3).more hb3.size)
    have hD3 := Lib.hid (hD2.out.below hb3)
    have hz3 := hB3.out.size
    clear hb3
    have hN := Lib.hid (show (w3.alloc (.cells #[] 3)).ownsRow w3.heap.size 3 1 (.slice (some ⟨w3.heap.size, 0, none⟩) 0 0) 0 [] from
      ⟨rfl, .inr ⟨w3.heap.size, 0, #[], rfl, Nat.le_refl _, Has.new w3 _ _, Nat.le_refl _, Nat.zero_le _, rfl, rfl⟩⟩)
    have hBa : Below w3.heap.size w3 (w3.alloc (.cells #[] 3)) := (Below.refl _ _).alloc (Nat.le_refl _) _
    have hDa := Lib.hid (hD3.out.below hBa)
    go_wp2_with (first | (at_builtin; refine append_rowsR rfl (.tmp 65) (.tmp 66) 23 rfl w3.heap.size 3 i0 _ 1 8 Try.underlying23 hi0 hz0 hz1' hz2' rfl (by decide) (.slice (some ⟨w3.heap.size, 0, none⟩) 0 0) 0 [] rfl (by exact hN.out) _ (.slice A2 ds.length c2) ds.length (ints ds) rfl (by exact hDa.out) (ints_one ds) (by unfold maxLen; omega) (by omega) (by simp) ?_; intro v' w4 hown4 hgrow4 hblk; obtain ⟨A5, c5, hv5, _, _⟩ := owns_form hown4; subst hv5) | (at_builtin; have hown4' : w4.ownsRow w3.heap.size 3 1 (.slice A5 ds.length c5) ds.length (ints ds) := (by simpa using hown4); refine wpList_append_lies _ rfl (.tmp 67) (.tmp 68) 23 rfl w3.heap.size 3 i0 _ 1 8 Try.underlying23 hi0 hz0 hz1' hz2' rfl (by decide) (.slice A5 ds.length c5) ds.length (ints ds) rfl (by exact IOwn.alloc (show IOwn w4 w3.heap.size (.slice A5 ds.length c5) ds from hown4') _) ⟨w4.heap.size, 0, none⟩ 1 1 [.int .i64 0] rfl rfl (by exact new_one w4 (.int .i64 0) 3) (by simp [Value.oneCell']) (by omega) (by unfold maxLen; omega) (by omega) (by have h9 := hgrow4.size; simp at h9 ⊢; omega) (w4.heap.size + 1) (by simp) ?_; intro gr cr2 w5 hown5 hgrow5 hat5 hlt5))
    have hB4 := hBa.grown hgrow4 (by simp) (fun k hk => by
      have h1 : w3.heap.size = k := by simpa [Value.ownBlock] using hk
      omega)
    have hO4 := Lib.hid (show IOwn (w4.alloc (.cells #[.int .i64 0] 3)) w3.heap.size (.slice A5 ds.length c5) ds from IOwn.alloc (show IOwn w4 w3.heap.size (.slice A5 ds.length c5) ds from (by unfold IOwn; simpa using hown4)) _)
    have hz4 := hB4.size
    have hB4' := Lib.hid (hB4.alloc hz4 (.cells #[.int .i64 0] 3))
    have hF := Lib.hid (IOwn.append_ (news := [(0 : Int)]) hO4.out hown5 hgrow5 hB4'.out (by simp; omega))
    have hP5 := Lib.hid ((hP3.out.below hF.out.2).more hF.out.2.size)
    have hD5 := Lib.hid (hD3.out.below hF.out.2)
    have hB5 := Lib.hid (hB3.out.trans (hF.out.2.mono hz3))
    have hL5 := Lib.hid (show Ils w5 w5.heap.size (some ⟨gr, 0, none⟩) (ds.length + 1) (ds ++ [0]) from by
      have := hF.out.1.lst
      simpa using this)
    clear hown5 hgrow5 hat5 hlt5 hown4 hgrow4 hblk hB4 hBa
    refine (cR.out _ (ds.length + 1) cr2 (ds ++ [0]) _ hP5.out hL5.out (by unfold maxLen; omega)).mono ?_
    rw [hLo.out]
    rintro e w6 ⟨rfl, hb6⟩
    have hB6 := Lib.hid (hB5.out.trans (hb6.mono hB5.out.size))
    have hP6 := Lib.hid ((hP5.out.below hb6).more hb6.size)
    have hD6 := Lib.hid (hD5.out.below hb6)
    clear hb6
    by_cases hd0 : ds.length = 0
    · have hdi : ¬ 0 < ds.length := by omega
      clear hd0
      go_wp2_with fail
      refine (cT.out _ hP6.out).mono ?_
      rintro e w8 ⟨v8, vs8, rfl, hR8, _, hb8⟩
      obtain ⟨A8, c8, hv8, _, _⟩ := hR8.form
      subst hv8
      have hB8 := Lib.hid (hB6.out.trans (hb8.mono hB6.out.size))
      have hD8 := Lib.hid ((hD6.out.lst.below hb8).more hb8.size)
      have hR8' := Lib.hid hR8
      clear hR8 hb8
      go_wp2_with fail
      go_loopg [17, 95] rs.length (fun gn o v wr => ∃ k : Nat, k ≤ rs.length ∧ gn = rs.length - k ∧ v = .int .i64 k ∧ o = .bool (decide (ds ∈ rs.take k)) ∧ Below w8.heap.size w8 wr)
      case atStart => exact ⟨0, Nat.zero_le _, rfl, rfl, by simp, Below.refl _ _⟩
      case round =>
        obtain ⟨k, hk, hgn, rfl, rfl, hB⟩ := hrel
        have hgk : gk = rs.length - k := hgn
        clear hgn
        have hB' := Lib.hid hB
        have hBW := Lib.hid (hB8.out.trans (hB.mono hB8.out.size))
        have hDr := Lib.hid ((hD8.out.below hB).more hB.size)
        by_cases hlt : k < rs.length
        · obtain ⟨g, Ax, cx, es, rfl, _, hcg, hes, hOx⟩ := (rowsV_below' hR8'.out hB).at_ rfl hlt
          have hIx := Lib.hid hOx.lst
          have hTk := Lib.hid (take_has (ds := ds) hes)
          have hlx : es.length ≤ maxLen := by
            obtain ⟨_, _, e, h1, h2⟩ := hOx.form
            injection e
            omega
          have hk0 : (0 : Int) ≤ (k : Int) := by omega
          have hk1 : (k : Int) < (rs.length : Int) := by omega
          clear hOx hes hB
          cases hh : decide (ds ∈ rs.take k)
          · have hTk' := Lib.hid (show decide (ds ∈ rs.take (k + 1)) = decide (es = ds) by rw [hTk.out, hh]; rfl)
            clear hh
            go_wp2_with (first | (go_at_call 26; refine (wcInts_any Ax A2 es.length ds.length cx c2 es ds _ hIx.out hDr.out hlx hdm).mono ?_; rintro e w9 ⟨rfl, q, rfl⟩))
            go_roundg (rs.length - (k + 1))
            case measure => omega
            case rel => exact ⟨k + 1, by omega, rfl, by go_num, by rw [hTk'.out], below_drewN hB'.out q⟩
          · have hTk' := Lib.hid (show decide (ds ∈ rs.take (k + 1)) = true by rw [hTk.out, hh]; rfl)
            clear hh
            go_wp2_with fail
            go_roundg (rs.length - (k + 1))
            case measure => omega
            case rel => exact ⟨k + 1, by omega, rfl, by go_num, by rw [hTk'.out], hB'.out⟩
        · have hke : rs.take k = rs := List.take_of_length_le (by omega)
          rw [hke]
          cases hok : ok
          · clear hB
            go_wp2_with fail
            go_ret
            exact ⟨rfl, hBW.out⟩
          · rw [hHi.out hok]
            clear hB
            by_cases hw : 0 < wt
            · rw [decide_eq_true hw]
              go_wp2_with fail
              go_ret
              exact ⟨rfl, hBW.out⟩
            · rw [decide_eq_false hw]
              go_wp2_with fail
              go_ret
              exact ⟨by simp, hBW.out⟩
    · have hdi : 0 < ds.length := by omega
      have hS1 := Lib.hid (hSh.out (fun e => hd0 (by rw [e]; rfl)))
      have hw1 : IntKind.i64.wrap ((ds.length : Int) - 1) = (ds.length : Int) - 1 := by rw [IntKind.wrap_i64]; omega
      have hw2 : ((ds.length : Int) - 1).toNat = ds.length - 1 := by omega
      have hw3 : (0 : Int) ≤ (ds.length : Int) - 1 := by omega
      have hw4 : (ds.length : Int) - 1 ≤ (c2 : Int) := by omega
      have hT6 := Lib.hid (show Ils w6 w6.heap.size A2 (ds.length - 1) ds.dropLast from by
        rw [List.dropLast_eq_take]
        exact hD6.out.lst.take_ (by omega))
      go_wp2_with fail
      refine (cR.out _ (ds.length - 1) _ ds.dropLast _ hP6.out hT6.out (by omega)).mono ?_
      rw [hS1.out]
      rintro e w7 ⟨rfl, hb7⟩
      have hB7 := Lib.hid (hB6.out.trans (hb7.mono hB6.out.size))
      have hP7 := Lib.hid ((hP6.out.below hb7).more hb7.size)
      have hD7 := Lib.hid (hD6.out.below hb7)
      clear hb7
      go_wp2_with fail
      refine (cT.out _ hP7.out).mono ?_
      rintro e w8 ⟨v8, vs8, rfl, hR8, _, hb8⟩
      obtain ⟨A8, c8, hv8, _, _⟩ := hR8.form
      subst hv8
      have hB8 := Lib.hid (hB7.out.trans (hb8.mono hB7.out.size))
      have hD8 := Lib.hid ((hD7.out.lst.below hb8).more hb8.size)
      have hR8' := Lib.hid hR8
      clear hR8 hb8
      go_wp2_with fail
      go_loopg [17, 95] rs.length (fun gn o v wr => ∃ k : Nat, k ≤ rs.length ∧ gn = rs.length - k ∧ v = .int .i64 k ∧ o = .bool (decide (ds ∈ rs.take k)) ∧ Below w8.heap.size w8 wr)
      case atStart => exact ⟨0, Nat.zero_le _, rfl, rfl, by simp, Below.refl _ _⟩
      case round =>
        obtain ⟨k, hk, hgn, rfl, rfl, hB⟩ := hrel
        have hgk : gk = rs.length - k := hgn
        clear hgn
        have hB' := Lib.hid hB
        have hBW := Lib.hid (hB8.out.trans (hB.mono hB8.out.size))
        have hDr := Lib.hid ((hD8.out.below hB).more hB.size)
        by_cases hlt : k < rs.length
        · obtain ⟨g, Ax, cx, es, rfl, _, hcg, hes, hOx⟩ := (rowsV_below' hR8'.out hB).at_ rfl hlt
          have hIx := Lib.hid hOx.lst
          have hTk := Lib.hid (take_has (ds := ds) hes)
          have hlx : es.length ≤ maxLen := by
            obtain ⟨_, _, e, h1, h2⟩ := hOx.form
            injection e
            omega
          have hk0 : (0 : Int) ≤ (k : Int) := by omega
          have hk1 : (k : Int) < (rs.length : Int) := by omega
          clear hOx hes hB
          cases hh : decide (ds ∈ rs.take k)
          · have hTk' := Lib.hid (show decide (ds ∈ rs.take (k + 1)) = decide (es = ds) by rw [hTk.out, hh]; rfl)
            clear hh
            go_wp2_with (first | (go_at_call 26; refine (wcInts_any Ax A2 es.length ds.length cx c2 es ds _ hIx.out hDr.out hlx hdm).mono ?_; rintro e w9 ⟨rfl, q, rfl⟩))
            go_roundg (rs.length - (k + 1))
            case measure => omega
            case rel => exact ⟨k + 1, by omega, rfl, by go_num, by rw [hTk'.out], below_drewN hB'.out q⟩
          · have hTk' := Lib.hid (show decide (ds ∈ rs.take (k + 1)) = true by rw [hTk.out, hh]; rfl)
            clear hh
            go_wp2_with fail
            go_roundg (rs.length - (k + 1))
            case measure => omega
            case rel => exact ⟨k + 1, by omega, rfl, by go_num, by rw [hTk'.out], hB'.out⟩
        · have hke : rs.take k = rs := List.take_of_length_le (by omega)
          rw [hke]
          cases hok : ok
          · clear hB
            go_wp2_with fail
            go_ret
            exact ⟨rfl, hBW.out⟩
          · rw [hHi.out hok]
            clear hB
            by_cases hw : 0 < wt
            · rw [decide_eq_true hw]
              go_wp2_with fail
              go_ret
              exact ⟨rfl, hBW.out⟩
            · rw [decide_eq_false hw]
              go_wp2_with fail
              go_ret
              exact ⟨by simp, hBW.out⟩

set_option maxRecDepth 100000 in
theorem lifted (os : Os) (started : os.Started) (H : Type) (enc : TypeId × Value → H) :
    ReturnsInHanded {} Try.checked os 5 .any (Rows.fnRunTraceSpec.pre6 enc Try.prog Try.f5 Rows.fnRunTraceRow.domain false) (Rows.fnRunTraceSpec.post enc Try.prog Try.f5 false true false false) := by
  refine returnsInHanded_of_change (C := Try.checked) own started (by kernel_rfl) Try.func5
    (ChangeSpec.witness6 (enc := enc) (C := Try.checked) false ⟨#[], #[.slice none 0 0], []⟩ 8 (by kernel_rfl) (by kernel_rfl) (by kernel_rfl) (by kernel_rfl)) ?_
  intro W base args ds gs before hval0 hW hcnd _
  have hval : ∀ (j : Nat) t v, Try.f5.params[j]? = some t → args[j]? = some v → Value.okWide Try.prog W .any base t v := hval0
  have hW' := hW
  obtain ⟨p, q, hA0, hV, rfl, hfz, hnd⟩ := hW
  have hA : DataW.TrodAll enc Try.prog W 0 (fun _ => true) true Try.f5.params.toList args.toList ds p := hA0
  rw [Try.params5] at hA hval
  obtain ⟨v0, vs0, d0, ds0, p0, q0, hargs, rfl, rfl, h0, r0⟩ := trodAll_cons hA
  obtain ⟨rfl, rfl, rfl⟩ := trodAll_nil r0
  obtain rfl : args = #[v0] := by cases args; simp_all
  obtain ⟨rfl, rfl⟩ := trodVars_none hV
  have lt0 : ∀ x ∈ p0, x.block < W.heap.size := by
    obtain ⟨m, hm⟩ := h0
    exact DataW.trod_lt m _ _ _ hm
  clear hA0 hval0
  refine (walk enc W base v0 d0 p0 (hval 0 35 v0 rfl rfl) h0 lt0).mono fun e W' ⟨he, bel⟩ => ?_
  subst he
  exact ⟨_, rfl, _, _, _, [], _, [], hW', trodAll_mk1 (shut_bool Try.underlying4 _), (trodAll_cons_mk (Below.trod laidOut (by kernel_rfl) (of_decide_eq_true (by kernel_rfl)) h0 bel lt0) trodAll_mk0), rfl, bel.frame _, fun h => by cases h⟩

theorem proved : Rows.FnRunTraceSaid :=
  OpenClaim.holds_of_wide 5 Try.f5 rfl rfl rfl rfl rfl rfl rfl ⟨rfl, rfl, rfl, rfl, rfl⟩ rfl rfl rfl rfl rfl (by kernel_rfl) Try.func5 (by kernel_rfl)
    (of_decide_eq_true (by kernel_rfl)) (by unfold Func.isWrapper; first | (rw [if_pos (by decide +kernel)]; kernel_rfl) | (rw [if_neg (by decide +kernel)]; exact ⟨rfl, rfl⟩))
    (fun os started H enc _ => lifted os started H enc)
end Go.Proofs.Ytcdajplmheladaa.fnRunTrace
