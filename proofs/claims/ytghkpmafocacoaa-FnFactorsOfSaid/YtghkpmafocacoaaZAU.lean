/- Parts of the proof: Gn. -/
import Derived.Test.YtghkpmafocacoaaZAT
import Derived.Test.YtghkpmafocacoaaZAQ
import Derived.Test.YtghkpmafocacoaaZAR
namespace Go.Proofs.Ytghkpmafocacoaa
set_option maxRecDepth 100000
set_option linter.unusedVariables false
open Go.RowKit
def drawnOf (ps : List St) : Int := ps.foldl (fun D s => bor D (bitN s.sets)) 0
def zeroFac (v : Int) : Fac := ⟨[v], [1, 0, 0]⟩
def restF (D : Int) (k : Nat) : List Fac := ((List.range k).filter (fun v => !tb D v)).map (fun (v : Nat) => zeroFac (v : Int))
def facsOf (ps : List St) : List Fac := if single ps = true then ps.map facStmt ++ restF (drawnOf ps) 4 else []
theorem drawn_take {ps : List St} {k : Nat} {s : St} (h : ps[k]? = some s) : drawnOf (ps.take (k + 1)) = bor (drawnOf (ps.take k)) (bitN s.sets) := by
  obtain ⟨hl, he⟩ := List.getElem?_eq_some_iff.1 h
  unfold drawnOf
  rw [List.take_succ_eq_append_getElem hl, List.foldl_append, he]
  rfl
theorem drawn_bd (ps : List St) : ∀ k, 0 ≤ drawnOf (ps.take k) ∧ drawnOf (ps.take k) ≤ 15
  | 0 => by simp [drawnOf]
  | k + 1 => by
    cases hk : ps[k]? with
    | none =>
      have hl := List.getElem?_eq_none_iff.1 hk
      have := drawn_bd ps k
      rwa [List.take_of_length_le (by omega)] at this ⊢
    | some s =>
      rw [drawn_take hk]
      exact bor_bd (drawn_bd ps k).2 (bitN_le s.sets).2
theorem restF_succ (D : Int) (k : Nat) : restF D (k + 1) = restF D k ++ if tb D k = false then [zeroFac (k : Int)] else [] := by
  unfold restF
  rw [List.range_succ, List.filter_append, List.map_append]
  congr 1
  cases h : tb D k
  · rw [List.filter_cons_of_pos (by simp [h])]; rfl
  · rw [List.filter_cons_of_neg (by simp [h])]; rfl
theorem restF_len (D : Int) (k : Nat) : (restF D k).length ≤ k := by
  unfold restF
  rw [List.length_map]
  exact Nat.le_trans (List.length_filter_le _ _) (by rw [List.length_range]; exact Nat.le_refl _)
theorem facMap_take {ps : List St} {k : Nat} {s : St} (h : ps[k]? = some s) : (ps.take (k + 1)).map facStmt = (ps.take k).map facStmt ++ [facStmt s] := by
  obtain ⟨hl, he⟩ := List.getElem?_eq_some_iff.1 h
  rw [List.take_succ_eq_append_getElem hl, List.map_append, he]
  rfl
theorem sing_all : ∀ {ps : List St} {L : Int}, singF ps L = true → ∀ s ∈ ps, (s.draws || s.weighs) = true
  | [], _, _, s, hs => by cases hs
  | t :: r, L, h, s, hs => by
    have h1 : (oneOk t L && singF r (bor L (named t))) = true := h
    rw [Bool.and_eq_true] at h1
    rcases List.mem_cons.1 hs with rfl | hs
    · have h2 := h1.1
      unfold oneOk at h2
      rw [Bool.and_eq_true] at h2
      exact h2.1
    · exact sing_all h1.2 s hs
theorem single_parts {ps : List St} (h : single ps = true) : ps.length ≤ 4 ∧ ∀ s ∈ ps, s.ok = true ∧ (s.k = 2 ∨ s.k = 3 ∨ s.k = 4 ∨ s.k = 5) := by
  unfold single at h
  rw [Bool.and_eq_true, Bool.and_eq_true] at h
  refine ⟨of_decide_eq_true h.2.1, fun s hs => ⟨(plain_oks h.1 s hs).1, ?_⟩⟩
  have := sing_all h.2.2 s hs
  unfold St.draws St.weighs at this
  simp at this
  omega
def Fgd (w : World) (Fs : List Fac) (ok : Bool) (e : Ending) (w' : World) : Prop := ∃ v vs, e = .returned (.tuple #[v, .bool ok]) ∧ RowsF w' w.heap.size v Fs vs ∧ Apart vs ∧ Below w.heap.size w w'
/-- Behind an append of one factor. -/
theorem RowsF.append_ {w w' : World} {base : Nat} {v v' u1 u2 : Value} {Fs : List Fac} {vs : List Value} {F : Fac} (h : RowsF w base v Fs vs) (hx : FcV w base u1 u2 F)
    (hN : w'.ownsRow base 56 2 v' (Fs.length + 1) (vs ++ [u1, u2])) (hg : w.grownBy w' v.ownBlock) : RowsF w' base v' (Fs ++ [F]) (vs ++ [u1, u2]) := by
  have hk : KeptBut w w' (fun i => v.ownBlock = some i) := KeptBut.of_grown hg fun k e => e
  have hrow : ∀ y es, IOwn w base y es → IOwn w' base y es := fun y es hy => hy.but hk fun k hkb e => by
    obtain ⟨c1, h1⟩ := owns_has hy hkb
    obtain ⟨c2, h2⟩ := owns_has h.1 e
    exact has_ne h1 h2 fac_ne_int rfl
  have hrf : rowsF (Fs ++ [F]) = rowsF Fs ++ [F.vs, F.ns] := by unfold rowsF; rw [List.flatMap_append]; rfl
  have hrl := rowsF_len Fs
  have hvl := h.length
  refine ⟨by rw [List.length_append]; exact hN, fun i y hy => ?_⟩
  rw [hrf]
  by_cases hi : i < vs.length
  · rw [List.getElem?_append_left hi] at hy
    obtain ⟨es, he, ho⟩ := h.2 i y hy
    exact ⟨es, by rw [List.getElem?_append_left (by omega)]; exact he, hrow y es ho⟩
  · rw [List.getElem?_append_right (by omega)] at hy
    rw [List.getElem?_append_right (by omega), hrl, ← hvl]
    have hi2 := (List.getElem?_eq_some_iff.1 hy).1
    simp at hi2
    obtain h0 | h0 : i - vs.length = 0 ∨ i - vs.length = 1 := by omega
    · rw [h0] at hy ⊢
      have hy' : u1 = y := by simpa using hy
      subst hy'
      exact ⟨F.vs, rfl, hrow _ _ hx.1⟩
    · rw [h0] at hy ⊢
      have hy' : u2 = y := by simpa using hy
      subst hy'
      exact ⟨F.ns, rfl, hrow _ _ hx.2.1⟩
theorem RowsF.blk {w : World} {base : Nat} {v : Value} {Fs : List Fac} {vs : List Value} (h : RowsF w base v Fs vs) : ∀ y ∈ vs, ∀ k, y.ownBlock = some k → k < w.heap.size := fun y hy k hk => by
  obtain ⟨i, hi, rfl⟩ := List.getElem_of_mem hy
  obtain ⟨ds, _, ho⟩ := h.2 i _ (List.getElem?_eq_getElem hi)
  exact (World.ownsRow.lt ho k hk).2
theorem apart_two {w w' : World} {base lo : Nat} {v u1 u2 : Value} {Fs : List Fac} {vs : List Value} {F : Fac} (ha : Apart vs) (h : RowsF w base v Fs vs) (hx : FcV w' w.heap.size u1 u2 F) : Apart (vs ++ [u1, u2]) := by
  have ee : vs ++ [u1, u2] = (vs ++ [u1]) ++ [u2] := by simp
  rw [ee]
  clear ee
  refine (ha.snoc fun y hy k hk e => ?_).snoc fun y hy k hk e => ?_
  · have h1 := h.blk y hy k hk
    have h2 := (World.ownsRow.lt hx.1 k e).1
    omega
  · rcases List.mem_append.1 hy with hy | hy
    · have h1 := h.blk y hy k hk
      have h2 := (World.ownsRow.lt hx.2.1 k e).1
      omega
    · have hy' : y = u1 := by simpa using hy
      subst hy'
      exact hx.2.2 k hk e
set_option maxHeartbeats 4000000 in
theorem FactorsOf_any (A : Option Addr) (n c : Nat) (ps : List St) (w : World) (h : Lst w w.heap.size A n ps) (hn : n ≤ c) (hc : c ≤ maxLen) :
    Calls Try.prog 60 #[.slice A n c] w (Fgd w (facsOf ps) (single ps)) := by
  have hC := Lib.hid (fun wx (hx : Lst wx wx.heap.size A n ps) => SingleOk_any A n c ps wx hx hn hc)
  have hl := h.1
  have hH := Lib.hid h
  have hcc : n ≤ 9223372036854775807 := by unfold maxLen at hc; omega
  clear h hc
  cases hp : single ps
  · have hT : facsOf ps = [] := by unfold facsOf; rw [hp]; rfl
    rw [hT]
    rw [hp] at hC
    clear hp hT
    go_enter Try.func60, Try.ntmps60
    go_wp2_with fail
    refine (hC.out _ hH.out).mono ?_
    rintro e w1 ⟨rfl, hb⟩
    go_wp2_with fail
    go_ret2
    exact ⟨_, [], rfl, RowsF.nil _ _, Apart.nil, hb⟩
  · obtain ⟨hn4, hok⟩ := single_parts hp
    have hOK := Lib.hid hok
    have hT := Lib.hid (show facsOf ps = ps.map facStmt ++ restF (drawnOf ps) 4 by unfold facsOf; rw [hp]; rfl)
    rw [hp] at hC
    obtain ⟨i0, hi0, hi1, hi2, hi3⟩ := info_parts info_fac
    clear hp hok
    go_enter Try.func60, Try.ntmps60
    go_wp2_with fail
    refine (hC.out _ hH.out).mono ?_
    rintro e w1 ⟨rfl, hb⟩
    have hbh := Lib.hid hb
    clear hb
    go_wp2_with fail
    go_loopg [4, 5, 14] n (fun gn l o v wr => ∃ (k : Nat) (vs : List Value), k ≤ n ∧ gn = n - k ∧ v = .int .i64 k ∧ o = .int .i64 (drawnOf (ps.take k)) ∧ RowsF wr w.heap.size l ((ps.take k).map facStmt) vs ∧ Apart vs ∧ Below w.heap.size w wr)
    case atStart => exact ⟨0, [], Nat.zero_le _, rfl, rfl, rfl, RowsF.nil _ _, Apart.nil, hbh.out⟩
    case round =>
      obtain ⟨k, vs, hk, hgn, rfl, rfl, hR, hA, hB⟩ := hrel
      have hgk : gk = n - k := hgn
      have hml : ((ps.take k).map facStmt).length = k := by rw [List.length_map, List.length_take]; omega
      obtain ⟨Al, cl, rfl, _, _⟩ := hR.form
      rw [hml] at hR ⊢
      have hRh := Lib.hid hR
      have hAh := Lib.hid hA
      have hBh := Lib.hid hB
      clear hgn hR hA
      by_cases hlt : k < n
      · obtain ⟨g, off, s, rfl, hg, hs, hat⟩ := (hH.out.below hB).at_ hlt
        obtain ⟨c0, c1, c2, c3, c4, c5, c6⟩ := hat.open_
        have hk0 : (0 : Int) ≤ (k : Int) := by omega
        have hk1 : (k : Int) < (n : Int) := by omega
        have hz := hB.size
        obtain ⟨hsok, hsk⟩ := hOK.out s (List.mem_of_getElem? hs)
        have cF := Lib.hid (fun wx => factorOfStmt_any s wx hsok)
        have cZ : Hid (∀ wx : World, Calls Try.prog 115 #[.agg #[.int .i64 s.k, .int .i64 s.a, .int .i64 s.b, .int .i64 s.c, .int .i64 s.u, .int .i64 s.v, .int .i64 s.x]] wx fun e w' => e = .returned (.int .i64 s.sets) ∧ Below wx.heap.size wx w') := Lib.hid (fun wx => StmtSets_any s.k s.a s.b s.c s.u s.v s.x wx)
        have cBt := Lib.hid (fun wx => bitOf_any s.sets wx)
        have hor := bits_or (drawn_bd ps k) (bitN_le s.sets)
        have hdt := Lib.hid (drawn_take hs)
        have hmt := Lib.hid (facMap_take hs)
        have hbx := Lib.hid (Has.new wr 116 #[.int .i64 s.k, .int .i64 s.a, .int .i64 s.b, .int .i64 s.c, .int .i64 s.u, .int .i64 s.v, .int .i64 s.x])
        have hal : Below wr.heap.size wr (wr.alloc (.cells #[.int .i64 s.k, .int .i64 s.a, .int .i64 s.b, .int .i64 s.c, .int .i64 s.u, .int .i64 s.v, .int .i64 s.x] 116)) := (Below.refl _ _).alloc (Nat.le_refl _) _
        have hB0 := Lib.hid (hB.trans (hal.mono hz))
        have hR0 := Lib.hid (hRh.out.below hal)
        clear hal hs hat hB
        go_wp2_with fail
        clear c0 c1 c2 c3 c4 c5 c6
        generalize wr.alloc (.cells #[.int .i64 s.k, .int .i64 s.a, .int .i64 s.b, .int .i64 s.c, .int .i64 s.u, .int .i64 s.v, .int .i64 s.x] 116) = W0 at hbx hB0 hR0 ⊢
        refine (cF.out _).mono ?_
        rintro e w2 ⟨u1, u2, rfl, hV, hb2⟩
        obtain ⟨U1, q1, rfl, _, _⟩ := hV.1.form
        obtain ⟨U2, q2, rfl, _, _⟩ := hV.2.1.form
        have hB2 := Lib.hid (hB0.out.trans (hb2.mono hB0.out.size))
        have hx2 := hbx.out.kept hb2
        have hR2 := hR0.out.below hb2
        have hNA := Lib.hid (apart_two (lo := 0) hAh.out hR0.out hV)
        have hal3 : Below w2.heap.size w2 (w2.alloc (.cells #[.slice U1 (facStmt s).vs.length q1, .slice U2 (facStmt s).ns.length q2] 56)) := (Below.refl _ _).alloc (Nat.le_refl _) _
        have hR3 := Lib.hid (hR2.below hal3)
        have hV3 := Lib.hid ((hV.le hB0.out.size).below hal3)
        have hB3 := Lib.hid (hB2.out.trans (hal3.mono hB2.out.size))
        have hx3 := Lib.hid (hx2.kept hal3)
        have hO3 := Lib.hid (show (w2.alloc (.cells #[.slice U1 (facStmt s).vs.length q1, .slice U2 (facStmt s).ns.length q2] 56)).ownsRow w.heap.size 56 2 (.slice Al k cl) k vs from by have h1 := hR3.out.1; rwa [hml] at h1)
        have hnw := Lib.hid (World.news_of_block (Has.new w2 56 #[.slice U1 (facStmt s).vs.length q1, .slice U2 (facStmt s).ns.length q2]))
        have hsz3 := Lib.hid hB3.out.size
        clear hV hb2 hx2 hR2 hal3
        go_wp2_with (at_builtin; refine wpList_append_lies _ rfl (.tmp 18) (.tmp 21) 50 rfl w.heap.size 56 i0 _ 2 48 Try.underlying50 hi0 hi1 hi2 hi3 rfl (by decide) (.slice Al k cl) k vs rfl (by exact hO3.out) ⟨w2.heap.size, 0, none⟩ 1 1 [.slice U1 (facStmt s).vs.length q1, .slice U2 (facStmt s).ns.length q2] rfl rfl (by exact hnw.out) (by simp [Value.oneCell']) (by omega) (by unfold maxLen; omega) (by omega) (by exact hsz3.out) (w2.heap.size + 1) (by simp) ?_; intro gr cr2 w4 hown4 hgrow4 hat4 hlt4; have hx4 := Has.but hx3.out (KeptBut.of_grown (S := fun i => (Value.slice Al k cl).ownBlock = some i) hgrow4 (fun k e => e)) (fun e => by obtain ⟨c1, g1⟩ := owns_has hR3.out.1 e; exact has_ne hx3.out g1 (by decide) rfl); have cx := hx4.cell)
        have hR4 := Lib.hid (RowsF.append_ hR3.out hV3.out (by rw [hml]; exact hown4) hgrow4)
        have hB4 := Lib.hid (hB3.out.grown hgrow4 hB3.out.size (fun k hk => (World.ownsRow.lt hR3.out.1 k hk).1))
        clear hown4 hgrow4 hat4
        go_wp2_with fail
        refine (cZ.out _).mono ?_
        rintro e w5 ⟨rfl, hb5⟩
        have hB5 := Lib.hid (hB4.out.trans (hb5.mono hB4.out.size))
        have hR5 := Lib.hid (hR4.out.below hb5)
        rw [← hmt.out] at hR5
        clear hb5 cx hx4
        go_wp2_with fail
        refine (cBt.out _).mono ?_
        rintro e w' ⟨rfl, rfl⟩
        go_wp2_with fail
        go_roundg (n - (k + 1))
        case measure => omega
        case rel => exact ⟨k + 1, _, by omega, rfl, by go_num, by rw [hdt.out], hR5.out, hNA.out, hB5.out⟩
      · obtain rfl : k = n := by omega
        rw [List.take_of_length_le (by omega)] at hRh hml ⊢
        have hDb := drawn_bd ps k
        rw [List.take_of_length_le (by omega)] at hDb
        have hDh := Lib.hid hDb
        generalize drawnOf ps = DD at *
        obtain ⟨j0, hj0, hj1, hj2, hj3⟩ := info_parts info_int
        go_wp2_with fail
        go_loopg [4, 8] 4 (fun gn l v wr => ∃ (j : Nat) (vs : List Value), j ≤ 4 ∧ gn = 4 - j ∧ v = .int .i64 j ∧ RowsF wr w.heap.size l (ps.map facStmt ++ restF DD j) vs ∧ Apart vs ∧ Below w.heap.size w wr)
        case atStart => exact ⟨0, vs, Nat.zero_le _, rfl, rfl, by have h1 := hRh.out; rwa [show ps.map facStmt ++ restF DD 0 = ps.map facStmt by simp [restF]], hAh.out, hBh.out⟩
        case round =>
          obtain ⟨j, ws, hj, hgn, rfl, hR, hA, hB⟩ := hrel
          have hgj : gk = 4 - j := hgn
          have hll : (ps.map facStmt ++ restF DD j).length ≤ 8 := by have := restF_len DD j; rw [List.length_append]; omega
          obtain ⟨m, hm⟩ : ∃ m, (ps.map facStmt ++ restF DD j).length = m := ⟨_, rfl⟩
          rw [hm] at hll
          obtain ⟨Am, cm, rfl, _, _⟩ := hR.form
          rw [hm] at hR ⊢
          have hRj := Lib.hid hR
          have hAj := Lib.hid hA
          have hBj := Lib.hid hB
          have hzj := hB.size
          clear hgn hR hA hB
          by_cases hlj : j < 4
          · have hj0 : (0 : Int) ≤ (j : Int) := by omega
            have hj4 : (j : Int) < 4 := by omega
            have hrs := Lib.hid (restF_succ DD j)
            have cBj := Lib.hid (fun wx => bitOf_any (j : Int) wx)
            have hba := bits_and hDh.out (show j ≤ 3 by omega)
            cases ht : tb DD j
            · rw [ht] at hba
              have hE := Lib.hid (show ps.map facStmt ++ restF DD (j + 1) = (ps.map facStmt ++ restF DD j) ++ [zeroFac (j : Int)] by rw [hrs.out, ht, if_pos rfl, List.append_assoc])
              clear ht
              have a1 := Has.new wr 3 #[.int .i64 (j : Int)]
              have b1 : Below wr.heap.size wr (wr.alloc (.cells #[.int .i64 (j : Int)] 3)) := (Below.refl _ _).alloc (Nat.le_refl _) _
              have z1 : (wr.alloc (.cells #[.int .i64 (j : Int)] 3)).heap.size = wr.heap.size + 1 := by simp
              have a2 := a1.alloc (.cells #[.int .i64 1, .int .i64 0, .int .i64 0] 3)
              have c2 := Has.new (wr.alloc (.cells #[.int .i64 (j : Int)] 3)) 3 #[.int .i64 1, .int .i64 0, .int .i64 0]
              have b2 : Below wr.heap.size wr _ := b1.alloc b1.size (.cells #[.int .i64 1, .int .i64 0, .int .i64 0] 3)
              rw [z1] at c2
              have z2 : ((wr.alloc (.cells #[.int .i64 (j : Int)] 3)).alloc (.cells #[.int .i64 1, .int .i64 0, .int .i64 0] 3)).heap.size = wr.heap.size + 1 + 1 := by simp
              have hV : FcV ((wr.alloc (.cells #[.int .i64 (j : Int)] 3)).alloc (.cells #[.int .i64 1, .int .i64 0, .int .i64 0] 3)) wr.heap.size (.slice (some ⟨wr.heap.size, 0, none⟩) 1 1) (.slice (some ⟨wr.heap.size + 1, 0, none⟩) 3 3) (zeroFac (j : Int)) := ⟨IOwn.of_has (ds := [(j : Int)]) a2 rfl rfl (Nat.le_refl _) (by decide), IOwn.of_has (ds := [1, 0, 0]) c2 rfl rfl (by omega) (by decide), fun b e1 e2 => by
                have q1 : wr.heap.size = b := by simpa [Value.ownBlock] using e1
                have q2 : wr.heap.size + 1 = b := by simpa [Value.ownBlock] using e2
                omega⟩
              have hNA := Lib.hid (apart_two (lo := 0) hAj.out hRj.out hV)
              have hR2 := hRj.out.below b2
              have hB2 := hBj.out.trans (b2.mono hzj)
              clear a1 b1 a2 c2 b2
              have hV2 := Lib.hid hV
              have hR2h := Lib.hid hR2
              have hB2h := Lib.hid hB2
              clear hV hR2 hB2
              have hal3 : Below _ _ (((wr.alloc (.cells #[.int .i64 (j : Int)] 3)).alloc (.cells #[.int .i64 1, .int .i64 0, .int .i64 0] 3)).alloc (.cells #[.slice (some ⟨wr.heap.size, 0, none⟩) 1 1, .slice (some ⟨wr.heap.size + 1, 0, none⟩) 3 3] 56)) := (Below.refl ((wr.alloc (.cells #[.int .i64 (j : Int)] 3)).alloc (.cells #[.int .i64 1, .int .i64 0, .int .i64 0] 3)).heap.size _).alloc (Nat.le_refl _) _
              have hR3 := Lib.hid (hR2h.out.below hal3)
              have hV3 := Lib.hid ((hV2.out.le hzj).below hal3)
              have hB3 := Lib.hid (hB2h.out.trans (hal3.mono hB2h.out.size))
              have hO3 := Lib.hid (show (((wr.alloc (.cells #[.int .i64 (j : Int)] 3)).alloc (.cells #[.int .i64 1, .int .i64 0, .int .i64 0] 3)).alloc (.cells #[.slice (some ⟨wr.heap.size, 0, none⟩) 1 1, .slice (some ⟨wr.heap.size + 1, 0, none⟩) 3 3] 56)).ownsRow w.heap.size 56 2 (.slice Am m cm) m ws from by have h1 := hR3.out.1; rwa [hm] at h1)
              have hnw := Lib.hid (World.news_of_block (Has.newAt (w := (wr.alloc (.cells #[.int .i64 (j : Int)] 3)).alloc (.cells #[.int .i64 1, .int .i64 0, .int .i64 0] 3)) (n := wr.heap.size + 1 + 1) (t := 56) (cs := #[.slice (some ⟨wr.heap.size, 0, none⟩) 1 1, .slice (some ⟨wr.heap.size + 1, 0, none⟩) 3 3]) z2))
              have hsz3 := Lib.hid hB3.out.size
              clear hal3 z1 z2
              go_wp2_with fail
              refine (cBj.out _).mono ?_
              rintro e w' ⟨rfl, rfl⟩
              go_wp2_with (at_builtin; refine wpList_append_lies _ rfl (.tmp 38) (.tmp 43) 50 rfl w.heap.size 56 i0 _ 2 48 Try.underlying50 hi0 hi1 hi2 hi3 rfl (by decide) (.slice Am m cm) m ws rfl (by exact hO3.out) ⟨wr.heap.size + 1 + 1, 0, none⟩ 1 1 [.slice (some ⟨wr.heap.size, 0, none⟩) 1 1, .slice (some ⟨wr.heap.size + 1, 0, none⟩) 3 3] rfl rfl (by exact hnw.out) (by simp [Value.oneCell']) (by omega) (by unfold maxLen; omega) (by omega) (by exact hsz3.out) (wr.heap.size + 1 + 1 + 1) (by simp) ?_; intro gr cr2 w4 hown4 hgrow4 hat4 hlt4)
              have hR4 := Lib.hid (RowsF.append_ hR3.out hV3.out (by rw [hm]; exact hown4) hgrow4)
              rw [← hE.out] at hR4
              have hB4 := Lib.hid (hB3.out.grown hgrow4 hB3.out.size (fun k hk => (World.ownsRow.lt hR3.out.1 k hk).1))
              clear hown4 hgrow4 hat4
              go_wp2_with fail
              go_roundg (4 - (j + 1))
              case measure => omega
              case rel => exact ⟨j + 1, _, by omega, rfl, by go_num, hR4.out, hNA.out, hB4.out⟩
            · rw [ht] at hba
              have hE := Lib.hid (show ps.map facStmt ++ restF DD (j + 1) = ps.map facStmt ++ restF DD j by rw [hrs.out, ht, if_neg (by decide), List.append_nil])
              clear ht
              go_wp2_with fail
              refine (cBj.out _).mono ?_
              rintro e w' ⟨rfl, rfl⟩
              go_wp2_with fail
              go_roundg (4 - (j + 1))
              case measure => omega
              case rel => exact ⟨j + 1, ws, by omega, rfl, by go_num, by rw [hE.out]; exact hRj.out, hAj.out, hBj.out⟩
          · obtain rfl : j = 4 := by omega
            have hF := Lib.hid (show RowsF wr w.heap.size (.slice Am m cm) (facsOf ps) ws from by rw [hT.out]; exact hRj.out)
            go_wp2_with fail
            go_ret2
            exact ⟨_, ws, rfl, hF.out, hAj.out, hBj.out⟩
end Go.Proofs.Ytghkpmafocacoaa
