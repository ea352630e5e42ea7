/- Parts of the proof: Go. -/
import Derived.Test.YtghkpmafocacoaaZAU
import Derived.Test.YtghkpmafocacoaaZAS
import Derived.Test.YtghkpmafocacoaaZAM
namespace Go.Proofs.Ytghkpmafocacoaa
set_option maxRecDepth 100000
set_option linter.unusedVariables false
open Go.RowKit
theorem shr0_tbF {L : Int} (hL : 0 ≤ L ∧ L ≤ 15) {k : Nat} (hk : k ≤ 3) : ((L / 2 ^ k).tmod 2 == 0) = !tb L k := by
  have : ∀ n : Fin 16, ∀ k : Fin 4, (((n.val : Int) / 2 ^ k.val).tmod 2 == 0) = !tb (n.val : Int) k.val := by decide +kernel
  obtain ⟨n, rfl⟩ := fin16 hL
  exact this n ⟨k, by omega⟩
theorem sets_draw {s : St} (h : s.ok = true) (hk : s.k = 2 ∨ s.k = 3 ∨ s.k = 4 ∨ s.k = 5) : (s.draws = true → s.sets = s.a ∧ 0 ≤ s.a ∧ s.a ≤ 3) ∧ (s.draws = false → bitN s.sets = 0) := by
  have h8 := ok_rng (k := s.k) (a := s.a) (b := s.b) (c := s.c) (u := s.u) (v := s.v) (x := s.x) h
  unfold St.draws St.sets
  refine ⟨fun hd => ?_, fun hd => ?_⟩
  · simp at hd
    rw [if_pos ⟨h, by omega⟩]
    omega
  · simp at hd
    rw [if_neg (by intro e; omega)]
    rfl
set_option maxHeartbeats 4000000 in
theorem specFactorsOf_any (A : Option Addr) (n c : Nat) (ps : List St) (w : World) (h : Lst w w.heap.size A n ps) (hn : n ≤ c) (hc : c ≤ maxLen) (hbig : n ≤ 1048576) :
    Calls Try.prog 61 #[.slice A n c] w (Fgd w (facsOf ps) (single ps)) := by
  have hC := Lib.hid (fun wx (hx : Lst wx wx.heap.size A n ps) => specSingleOk_any A n c ps wx hx hn hc hbig)
  have hl := h.1
  have hH := Lib.hid h
  have hcc : n ≤ 9223372036854775807 := by unfold maxLen at hc; omega
  clear h hc
  cases hp : single ps
  · have hT : facsOf ps = [] := by unfold facsOf; rw [hp]; rfl
    rw [hT]
    rw [hp] at hC
    clear hp hT
    go_enter Try.func61, Try.ntmps61
    go_wp2_with fail
    refine (hC.out _ hH.out).mono ?_
    rintro e w1 ⟨rfl, hb⟩
    go_wp2_with fail
    go_ret2
    exact ⟨_, [], rfl, RowsF.nil _ _, Apart.nil, hb⟩
  · obtain ⟨hn4, hok⟩ := single_parts hp
    have hOK := Lib.hid hok
    have hT := Lib.hid (show facsOf ps = ps.map facStmt ++ restF (drawnOf ps) 4 by unfold facsOf; rw [hp]; rfl)
    rw [hp] at hC
    obtain ⟨i0, hi0, hi1, hi2, hi3⟩ := info_parts info_fac
    clear hp hok
    go_enter Try.func61, Try.ntmps61
    go_wp2_with fail
    refine (hC.out _ hH.out).mono ?_
    rintro e w1 ⟨rfl, hb⟩
    have hz1 := hb.size
    have hN0 := Lib.hid (show RowsF (w1.alloc (.cells #[] 56)) w.heap.size (.slice (some ⟨w1.heap.size, 0, none⟩) 0 0) [] [] from
      ⟨⟨rfl, .inr ⟨w1.heap.size, 0, #[], rfl, hz1, Has.new w1 _ _, Nat.le_refl _, Nat.zero_le _, rfl, rfl⟩⟩, fun i x hx => by simp at hx⟩)
    have hbh := Lib.hid (hb.alloc hz1 (.cells #[] 56))
    clear hb
    go_wp2_with fail
    go_loopg [4, 5, 6] n (fun gn l o v wr => ∃ (k : Nat) (vs : List Value), k ≤ n ∧ gn = n - k ∧ v = .int .i64 k ∧ o = .int .i64 (drawnOf (ps.take k)) ∧ RowsF wr w.heap.size l ((ps.take k).map facStmt) vs ∧ Apart vs ∧ Below w.heap.size w wr)
    case atStart => exact ⟨0, [], Nat.zero_le _, rfl, rfl, rfl, hN0.out, Apart.nil, hbh.out⟩
    case round =>
      obtain ⟨k, vs, hk, hgn, rfl, rfl, hR, hA, hB⟩ := hrel
      have hgk : gk = n - k := hgn
      have hml : ((ps.take k).map facStmt).length = k := by rw [List.length_map, List.length_take]; omega
      obtain ⟨Al, cl, rfl, _, _⟩ := hR.form
      rw [hml] at hR ⊢
      have hRh := Lib.hid hR
      have hAh := Lib.hid hA
      have hBh := Lib.hid hB
      clear hgn hR hA
      by_cases hlt : k < n
      · obtain ⟨g, off, s, rfl, hg, hs, hat⟩ := hH.out.at_ hlt
        have hAt := Lib.hid (fun wx (hx : Below w.heap.size w wx) => (hat.keep (fun p hp => hx.cell (by rw [hp]; exact hg))).open_)
        obtain ⟨c0, c1, c2, c3, c4, c5, c6⟩ := hAt.out wr hB
        have hk0 : (0 : Int) ≤ (k : Int) := by omega
        have hk1 : (k : Int) < (n : Int) := by omega
        have hz := hB.size
        obtain ⟨hsok, hsk⟩ := hOK.out s (List.mem_of_getElem? hs)
        have cF := Lib.hid (fun wx => l8Stmt_any s wx hsok hsk)
        have cD := Lib.hid (fun wx => l2Draws_any s wx)
        obtain ⟨hsd1, hsd2⟩ := sets_draw hsok hsk
        have hdt := Lib.hid (drawn_take hs)
        have hmt := Lib.hid (facMap_take hs)
        have hdb := Lib.hid (drawn_bd ps k)
        have hB0 := Lib.hid hB
        clear hs hat hB
        go_wp2_with fail
        clear c0 c1 c2 c3 c4 c5 c6
        refine (cF.out _).mono ?_
        rintro e w2 ⟨u1, u2, rfl, hV, hb2⟩
        obtain ⟨U1, q1, rfl, _, _⟩ := hV.1.form
        obtain ⟨U2, q2, rfl, _, _⟩ := hV.2.1.form
        have hB2 := Lib.hid (hB0.out.trans (hb2.mono hB0.out.size))
        have hR2 := hRh.out.below hb2
        have hNA := Lib.hid (apart_two (lo := 0) hAh.out hRh.out hV)
        have hal3 : Below w2.heap.size w2 (w2.alloc (.cells #[.slice U1 (facStmt s).vs.length q1, .slice U2 (facStmt s).ns.length q2] 56)) := (Below.refl _ _).alloc (Nat.le_refl _) _
        have hR3 := Lib.hid (hR2.below hal3)
        have hV3 := Lib.hid ((hV.le hB0.out.size).below hal3)
        have hB3 := Lib.hid (hB2.out.trans (hal3.mono hB2.out.size))
        have hO3 := Lib.hid (show (w2.alloc (.cells #[.slice U1 (facStmt s).vs.length q1, .slice U2 (facStmt s).ns.length q2] 56)).ownsRow w.heap.size 56 2 (.slice Al k cl) k vs from by have h1 := hR3.out.1; rwa [hml] at h1)
        have hnw := Lib.hid (World.news_of_block (Has.new w2 56 #[.slice U1 (facStmt s).vs.length q1, .slice U2 (facStmt s).ns.length q2]))
        have hsz3 := Lib.hid hB3.out.size
        clear hV hb2 hR2 hal3
        go_wp2_with (at_builtin; refine wpList_append_lies _ rfl (.tmp 18) (.tmp 24) 50 rfl w.heap.size 56 i0 _ 2 48 Try.underlying50 hi0 hi1 hi2 hi3 rfl (by decide) (.slice Al k cl) k vs rfl (by exact hO3.out) ⟨w2.heap.size, 0, none⟩ 1 1 [.slice U1 (facStmt s).vs.length q1, .slice U2 (facStmt s).ns.length q2] rfl rfl (by exact hnw.out) (by simp [Value.oneCell']) (by omega) (by unfold maxLen; omega) (by omega) (by exact hsz3.out) (w2.heap.size + 1) (by simp) ?_; intro gr cr2 w4 hown4 hgrow4 hat4 hlt4; have hB4 := Lib.hid (hB3.out.grown hgrow4 hB3.out.size (fun k hk => (World.ownsRow.lt hR3.out.1 k hk).1)); obtain ⟨d0, d1, d2, d3, d4, d5, d6⟩ := hAt.out w4 hB4.out)
        have hR4 := Lib.hid (RowsF.append_ hR3.out hV3.out (by rw [hml]; exact hown4) hgrow4)
        rw [← hmt.out] at hR4
        clear hown4 hgrow4 hat4
        go_wp2_with fail
        clear d0 d1 d2 d3 d4 d5 d6
        cases hd : s.draws
        · refine (cD.out _).mono ?_
          rw [hd]
          rintro e w5 ⟨rfl, hb5⟩
          have hB5 := Lib.hid (hB4.out.trans (hb5.mono hB4.out.size))
          have hR5 := Lib.hid (hR4.out.below hb5)
          have hdd := Lib.hid (show drawnOf (ps.take (k + 1)) = drawnOf (ps.take k) by rw [hdt.out, hsd2 hd, bor_zero hdb.out.1])
          clear hb5 hd
          go_wp2_with fail
          go_roundg (n - (k + 1))
          case measure => omega
          case rel => exact ⟨k + 1, _, by omega, rfl, by go_num, by rw [hdd.out], hR5.out, hNA.out, hB5.out⟩
        · refine (cD.out _).mono ?_
          rw [hd]
          rintro e w5 ⟨rfl, hb5⟩
          have hB5 := Lib.hid (hB4.out.trans (hb5.mono hB4.out.size))
          have hR5 := Lib.hid (hR4.out.below hb5)
          obtain ⟨hsa, ha0, ha3⟩ := hsd1 hd
          have hsh := shl_in (a := s.a) ⟨ha0, ha3⟩
          have ha64 : s.a ≤ 64 := by omega
          have hor := bits_or hdb.out (bitN_le s.a)
          have hdd := Lib.hid (show drawnOf (ps.take (k + 1)) = bor (drawnOf (ps.take k)) (bitN s.a) by rw [hdt.out, hsa])
          obtain ⟨f0, f1, f2, f3, f4, f5, f6⟩ := hAt.out w5 hB5.out
          clear hb5 hd hsa
          go_wp2_with fail
          go_roundg (n - (k + 1))
          case measure => omega
          case rel => exact ⟨k + 1, _, by omega, rfl, by go_num, by rw [hdd.out], hR5.out, hNA.out, hB5.out⟩
      · obtain rfl : k = n := by omega
        rw [List.take_of_length_le (by omega)] at hRh hml ⊢
        have hDb := drawn_bd ps k
        rw [List.take_of_length_le (by omega)] at hDb
        have hDh := Lib.hid hDb
        generalize drawnOf ps = DD at *
        obtain ⟨j0, hj0, hj1, hj2, hj3⟩ := info_parts info_int
        go_wp2_with fail
        go_loopg [4, 7] 4 (fun gn l v wr => ∃ (j : Nat) (vs : List Value), j ≤ 4 ∧ gn = 4 - j ∧ v = .int .i64 j ∧ RowsF wr w.heap.size l (ps.map facStmt ++ restF DD j) vs ∧ Apart vs ∧ Below w.heap.size w wr)
        case atStart => exact ⟨0, vs, Nat.zero_le _, rfl, rfl, by have h1 := hRh.out; rwa [show ps.map facStmt ++ restF DD 0 = ps.map facStmt by simp [restF]], hAh.out, hBh.out⟩
        case round =>
          obtain ⟨j, ws, hj, hgn, rfl, hR, hA, hB⟩ := hrel
          have hgj : gk = 4 - j := hgn
          have hll : (ps.map facStmt ++ restF DD j).length ≤ 8 := by have := restF_len DD j; rw [List.length_append]; omega
          obtain ⟨m, hm⟩ : ∃ m, (ps.map facStmt ++ restF DD j).length = m := ⟨_, rfl⟩
          rw [hm] at hll
          obtain ⟨Am, cm, rfl, _, _⟩ := hR.form
          rw [hm] at hR ⊢
          have hRj := Lib.hid hR
          have hAj := Lib.hid hA
          have hBj := Lib.hid hB
          have hzj := hB.size
          clear hgn hR hA hB
          by_cases hlj : j < 4
          · have hj0 : (0 : Int) ≤ (j : Int) := by omega
            have hj4 : (j : Int) < 4 := by omega
            have hrs := Lib.hid (restF_succ DD j)
            have hsh := shr0_tbF hDh.out (show j ≤ 3 by omega)
            have hj64 : (j : Int) ≤ 64 := by omega
            cases ht : tb DD j
            · rw [ht] at hsh
              have hE := Lib.hid (show ps.map facStmt ++ restF DD (j + 1) = (ps.map facStmt ++ restF DD j) ++ [zeroFac (j : Int)] by rw [hrs.out, ht, if_pos rfl, List.append_assoc])
              clear ht
              have a1 := Has.new wr 3 #[.int .i64 (j : Int)]
              have b1 : Below wr.heap.size wr (wr.alloc (.cells #[.int .i64 (j : Int)] 3)) := (Below.refl _ _).alloc (Nat.le_refl _) _
              have z1 : (wr.alloc (.cells #[.int .i64 (j : Int)] 3)).heap.size = wr.heap.size + 1 := by simp
              have a2 := a1.alloc (.cells #[.int .i64 1, .int .i64 0, .int .i64 0] 3)
              have c2 := Has.new (wr.alloc (.cells #[.int .i64 (j : Int)] 3)) 3 #[.int .i64 1, .int .i64 0, .int .i64 0]
              have b2 : Below wr.heap.size wr _ := b1.alloc b1.size (.cells #[.int .i64 1, .int .i64 0, .int .i64 0] 3)
              rw [z1] at c2
              have z2 : ((wr.alloc (.cells #[.int .i64 (j : Int)] 3)).alloc (.cells #[.int .i64 1, .int .i64 0, .int .i64 0] 3)).heap.size = wr.heap.size + 1 + 1 := by simp
              have hV : FcV ((wr.alloc (.cells #[.int .i64 (j : Int)] 3)).alloc (.cells #[.int .i64 1, .int .i64 0, .int .i64 0] 3)) wr.heap.size (.slice (some ⟨wr.heap.size, 0, none⟩) 1 1) (.slice (some ⟨wr.heap.size + 1, 0, none⟩) 3 3) (zeroFac (j : Int)) := ⟨IOwn.of_has (ds := [(j : Int)]) a2 rfl rfl (Nat.le_refl _) (by decide), IOwn.of_has (ds := [1, 0, 0]) c2 rfl rfl (by omega) (by decide), fun b e1 e2 => by
                have q1 : wr.heap.size = b := by simpa [Value.ownBlock] using e1
                have q2 : wr.heap.size + 1 = b := by simpa [Value.ownBlock] using e2
                omega⟩
              have hNA := Lib.hid (apart_two (lo := 0) hAj.out hRj.out hV)
              have hR2 := hRj.out.below b2
              have hB2 := hBj.out.trans (b2.mono hzj)
              clear a1 b1 a2 c2 b2
              have hV2 := Lib.hid hV
              have hR2h := Lib.hid hR2
              have hB2h := Lib.hid hB2
              clear hV hR2 hB2
              have hal3 : Below _ _ (((wr.alloc (.cells #[.int .i64 (j : Int)] 3)).alloc (.cells #[.int .i64 1, .int .i64 0, .int .i64 0] 3)).alloc (.cells #[.slice (some ⟨wr.heap.size, 0, none⟩) 1 1, .slice (some ⟨wr.heap.size + 1, 0, none⟩) 3 3] 56)) := (Below.refl ((wr.alloc (.cells #[.int .i64 (j : Int)] 3)).alloc (.cells #[.int .i64 1, .int .i64 0, .int .i64 0] 3)).heap.size _).alloc (Nat.le_refl _) _
              have hR3 := Lib.hid (hR2h.out.below hal3)
              have hV3 := Lib.hid ((hV2.out.le hzj).below hal3)
              have hB3 := Lib.hid (hB2h.out.trans (hal3.mono hB2h.out.size))
              have hO3 := Lib.hid (show (((wr.alloc (.cells #[.int .i64 (j : Int)] 3)).alloc (.cells #[.int .i64 1, .int .i64 0, .int .i64 0] 3)).alloc (.cells #[.slice (some ⟨wr.heap.size, 0, none⟩) 1 1, .slice (some ⟨wr.heap.size + 1, 0, none⟩) 3 3] 56)).ownsRow w.heap.size 56 2 (.slice Am m cm) m ws from by have h1 := hR3.out.1; rwa [hm] at h1)
              have hnw := Lib.hid (World.news_of_block (Has.newAt (w := (wr.alloc (.cells #[.int .i64 (j : Int)] 3)).alloc (.cells #[.int .i64 1, .int .i64 0, .int .i64 0] 3)) (n := wr.heap.size + 1 + 1) (t := 56) (cs := #[.slice (some ⟨wr.heap.size, 0, none⟩) 1 1, .slice (some ⟨wr.heap.size + 1, 0, none⟩) 3 3]) z2))
              have hsz3 := Lib.hid hB3.out.size
              clear hal3 z1 z2
              go_wp2_with (at_builtin; refine wpList_append_lies _ rfl (.tmp 48) (.tmp 53) 50 rfl w.heap.size 56 i0 _ 2 48 Try.underlying50 hi0 hi1 hi2 hi3 rfl (by decide) (.slice Am m cm) m ws rfl (by exact hO3.out) ⟨wr.heap.size + 1 + 1, 0, none⟩ 1 1 [.slice (some ⟨wr.heap.size, 0, none⟩) 1 1, .slice (some ⟨wr.heap.size + 1, 0, none⟩) 3 3] rfl rfl (by exact hnw.out) (by simp [Value.oneCell']) (by omega) (by unfold maxLen; omega) (by omega) (by exact hsz3.out) (wr.heap.size + 1 + 1 + 1) (by simp) ?_; intro gr cr2 w4 hown4 hgrow4 hat4 hlt4)
              have hR4 := Lib.hid (RowsF.append_ hR3.out hV3.out (by rw [hm]; exact hown4) hgrow4)
              rw [← hE.out] at hR4
              have hB4 := Lib.hid (hB3.out.grown hgrow4 hB3.out.size (fun k hk => (World.ownsRow.lt hR3.out.1 k hk).1))
              clear hown4 hgrow4 hat4
              go_wp2_with fail
              go_roundg (4 - (j + 1))
              case measure => omega
              case rel => exact ⟨j + 1, _, by omega, rfl, by go_num, hR4.out, hNA.out, hB4.out⟩
            · rw [ht] at hsh
              have hE := Lib.hid (show ps.map facStmt ++ restF DD (j + 1) = ps.map facStmt ++ restF DD j by rw [hrs.out, ht, if_neg (by decide), List.append_nil])
              clear ht
              go_wp2_with fail
              go_roundg (4 - (j + 1))
              case measure => omega
              case rel => exact ⟨j + 1, ws, by omega, rfl, by go_num, by rw [hE.out]; exact hRj.out, hAj.out, hBj.out⟩
          · obtain rfl : j = 4 := by omega
            have hF := Lib.hid (show RowsF wr w.heap.size (.slice Am m cm) (facsOf ps) ws from by rw [hT.out]; exact hRj.out)
            go_wp2_with fail
            go_ret2
            exact ⟨_, ws, rfl, hF.out, hAj.out, hBj.out⟩
end Go.Proofs.Ytghkpmafocacoaa
