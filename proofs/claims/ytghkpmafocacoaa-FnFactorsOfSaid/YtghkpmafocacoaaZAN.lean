/- Parts of the proof: Gd. -/
import Derived.Test.YtghkpmafocacoaaZAM
import Derived.Test.YtghkpmafocacoaaZAG
namespace Go.Proofs.Ytghkpmafocacoaa
set_option maxRecDepth 100000
set_option linter.unusedVariables false
open Go.RowKit
/-- The variables that are named in a statement. -/
def named (s : St) : Int := bor s.reads (bitN s.sets)
theorem named_bd (s : St) : 0 ≤ named s ∧ named s ≤ 15 := bor_bd (reads_bd s).2 (bitN_le s.sets).2
theorem bor_zero {a : Int} (h : 0 ≤ a) : bor a 0 = a := by
  unfold bor
  rw [show (0 : Int).toNat = 0 from rfl, Nat.or_zero]
  omega
theorem touch_named (s : St) (h : s.ok = true) : touch s = named s := by
  unfold touch named
  have hb := sets_bd s h
  split
  · exact bits_or (reads_bd s) (bitN_le s.sets)
  · have e : bitN s.sets = 0 := by
      have e1 : s.sets = -1 := by omega
      rw [e1]
      rfl
    rw [e, bor_zero (reads_bd s).1]
/-- Whether a statement fits behind what has been named. -/
def oneOk (s : St) (L : Int) : Bool := (s.draws || s.weighs) && !(decide (0 ≤ s.sets) && tb L s.sets.toNat)
def singF : List St → Int → Bool
  | [], _ => true
  | s :: r, L => oneOk s L && singF r (bor L (named s))
def single (ps : List St) : Bool := plainOk ps && (decide (ps.length ≤ 4) && singF ps 0)
theorem sand_none : ∀ L : Fin 16, (bits .and .i64 (L.val : Int) 0 == 0) = true := by decide +kernel
theorem and_sets (s : St) (h : s.ok = true) {L : Int} (hL : 0 ≤ L ∧ L ≤ 15) : (bits .and .i64 L (bitN s.sets) != 0) = (decide (0 ≤ s.sets) && tb L s.sets.toNat) := by
  have hb := sets_bd s h
  rw [bne]
  by_cases h0 : 0 ≤ s.sets
  · obtain ⟨k, hk, hk3⟩ := nat4 h0 hb.2
    rw [hk, bits_and hL hk3, Bool.not_not, decide_eq_true (by omega), Int.toNat_natCast, Bool.true_and]
  · have e : bitN s.sets = 0 := by
      have e1 : s.sets = -1 := by omega
      rw [e1]
      rfl
    obtain ⟨n, rfl⟩ := fin16 hL
    rw [e, sand_none n, decide_eq_false h0]
    rfl
theorem namedIn_any (s : St) (w : World) :
    Calls Try.prog 122 #[.agg #[.int .i64 s.k, .int .i64 s.a, .int .i64 s.b, .int .i64 s.c, .int .i64 s.u, .int .i64 s.v, .int .i64 s.x]] w fun e w' => e = .returned (.int .i64 (named s)) ∧ Below w.heap.size w w' := by
  have hor := bits_or (reads_bd s) (bitN_le s.sets)
  have cR : Hid (∀ wx : World, Calls Try.prog 161 #[.agg #[.int .i64 s.k, .int .i64 s.a, .int .i64 s.b, .int .i64 s.c, .int .i64 s.u, .int .i64 s.v, .int .i64 s.x]] wx fun e w' => e = .returned (.int .i64 s.reads) ∧ Below wx.heap.size wx w') := Lib.hid (fun wx => StmtReads_any s.k s.a s.b s.c s.u s.v s.x wx)
  have cS : Hid (∀ wx : World, Calls Try.prog 115 #[.agg #[.int .i64 s.k, .int .i64 s.a, .int .i64 s.b, .int .i64 s.c, .int .i64 s.u, .int .i64 s.v, .int .i64 s.x]] wx fun e w' => e = .returned (.int .i64 s.sets) ∧ Below wx.heap.size wx w') := Lib.hid (fun wx => StmtSets_any s.k s.a s.b s.c s.u s.v s.x wx)
  have cB := Lib.hid (fun wx => bitOf_any s.sets wx)
  have hN := Lib.hid (show bor s.reads (bitN s.sets) = named s from rfl)
  generalize named s = N at *
  have h1 := Has.new w 116 #[.int .i64 s.k, .int .i64 s.a, .int .i64 s.b, .int .i64 s.c, .int .i64 s.u, .int .i64 s.v, .int .i64 s.x]
  have hH := Lib.hid h1
  have hB0 := Lib.hid (show Below w.heap.size w (w.alloc (.cells #[.int .i64 s.k, .int .i64 s.a, .int .i64 s.b, .int .i64 s.c, .int .i64 s.u, .int .i64 s.v, .int .i64 s.x] 116)) from (Below.refl _ _).alloc (Nat.le_refl _) _)
  rw [hN.out] at hor
  generalize s.reads = R at *
  generalize s.sets = Z at *
  clear h1
  go_enter Try.func122, Try.ntmps122
  go_wp2_with fail
  generalize w.alloc (.cells #[.int .i64 s.k, .int .i64 s.a, .int .i64 s.b, .int .i64 s.c, .int .i64 s.u, .int .i64 s.v, .int .i64 s.x] 116) = W0 at hH hB0 ⊢
  refine wp_region_any (by kernel_rfl) ?_
  change wpAny _ _ _ _ _ _ _ (World.drew _)
  refine wpAny_last (n := 6) (I := fun listed aq wx => listed.size = 7 ∧ ∃ v3 v4 v5 v6 v7 v8 : Value, aq = { tmps := #[.agg #[.int .i64 s.k, .int .i64 s.a, .int .i64 s.b, .int .i64 s.c, .int .i64 s.u, .int .i64 s.v, .int .i64 s.x], .pointer (some ⟨w.heap.size, 0, none⟩), .int .i64 0, v3, v4, v5, v6, v7, v8], defers := [] } ∧ (listed.getD 0 false = true → v3 = .agg #[.int .i64 s.k, .int .i64 s.a, .int .i64 s.b, .int .i64 s.c, .int .i64 s.u, .int .i64 s.v, .int .i64 s.x]) ∧ (listed.getD 1 false = true → v4 = .int .i64 R) ∧ (listed.getD 2 false = true → v5 = .agg #[.int .i64 s.k, .int .i64 s.a, .int .i64 s.b, .int .i64 s.c, .int .i64 s.u, .int .i64 s.v, .int .i64 s.x]) ∧ (listed.getD 3 false = true → v6 = .int .i64 Z) ∧ (listed.getD 4 false = true → v7 = .int .i64 (bitN Z)) ∧ (listed.getD 5 false = true → v8 = .int .i64 N) ∧ Below W0.heap.size W0 wx) rfl (by kernel_rfl) (by kernel_rfl) ?hs ?hl _ _ _ ?st rfl (by decide) _ (by decide)
  case st =>
    refine ⟨rfl, undef, undef, undef, undef, undef, undef, rfl, ?_, ?_, ?_, ?_, ?_, ?_, (Below.refl _ _).drew⟩ <;> (intro e; exact absurd e (by decide))
  case hs =>
    rintro listed aq wx ⟨hz, v3, v4, v5, v6, v7, v8, rfl, hII⟩ i hin hi
    obtain ⟨h0, o, ho, hd⟩ := mem_ready.1 hi
    have K0 := Lib.hid hII.1
    have K1 := Lib.hid hII.2.1
    have K2 := Lib.hid hII.2.2.1
    have K3 := Lib.hid hII.2.2.2.1
    have K4 := Lib.hid hII.2.2.2.2.1
    have K5 := Lib.hid hII.2.2.2.2.2.1
    have hB : Below W0.heap.size W0 wx := hII.2.2.2.2.2.2
    have hne := Lib.hid (fun k (hk : i ≠ k) => @listed_ne listed i k hk)
    have hx := hH.out.kept hB
    clear hII hi h0
    rcases (by omega : i = 0 ∨ i = 1 ∨ i = 2 ∨ i = 3 ∨ i = 4 ∨ i = 5) with rfl | rfl | rfl | rfl | rfl | rfl
    · cases ho
      have hxc := hx.cell
      refine wpOp_step rfl (fun K hK => ?_)
      go_simp
      refine hK _ _ ⟨by simpa using hz, .agg #[.int .i64 s.k, .int .i64 s.a, .int .i64 s.b, .int .i64 s.c, .int .i64 s.u, .int .i64 s.v, .int .i64 s.x], v4, v5, v6, v7, v8, rfl, ?_⟩
      exact ⟨fun _ => rfl, fun e => K1.out (hne.out 1 (by decide) e), fun e => K2.out (hne.out 2 (by decide) e), fun e => K3.out (hne.out 3 (by decide) e), fun e => K4.out (hne.out 4 (by decide) e), fun e => K5.out (hne.out 5 (by decide) e), hB⟩
    · cases ho
      have d0 := hd ⟨0, .data⟩ (by simp) rfl
      obtain rfl := K0.out d0
      refine wpOp_step rfl (fun K hK => ?_)
      go_simp
      go_at_call 161
      refine (cR.out _).mono ?_
      rintro e w3 ⟨rfl, hb3⟩
      refine hK _ _ ⟨by simpa using hz, .agg #[.int .i64 s.k, .int .i64 s.a, .int .i64 s.b, .int .i64 s.c, .int .i64 s.u, .int .i64 s.v, .int .i64 s.x], .int .i64 R, v5, v6, v7, v8, rfl, ?_⟩
      exact ⟨fun e => K0.out (hne.out 0 (by decide) e), fun _ => rfl, fun e => K2.out (hne.out 2 (by decide) e), fun e => K3.out (hne.out 3 (by decide) e), fun e => K4.out (hne.out 4 (by decide) e), fun e => K5.out (hne.out 5 (by decide) e), hB.trans (hb3.mono hB.size)⟩
    · cases ho
      have hxc := hx.cell
      refine wpOp_step rfl (fun K hK => ?_)
      go_simp
      refine hK _ _ ⟨by simpa using hz, v3, v4, .agg #[.int .i64 s.k, .int .i64 s.a, .int .i64 s.b, .int .i64 s.c, .int .i64 s.u, .int .i64 s.v, .int .i64 s.x], v6, v7, v8, rfl, ?_⟩
      exact ⟨fun e => K0.out (hne.out 0 (by decide) e), fun e => K1.out (hne.out 1 (by decide) e), fun _ => rfl, fun e => K3.out (hne.out 3 (by decide) e), fun e => K4.out (hne.out 4 (by decide) e), fun e => K5.out (hne.out 5 (by decide) e), hB⟩
    · cases ho
      have d2 := hd ⟨2, .data⟩ (by simp) rfl
      obtain rfl := K2.out d2
      refine wpOp_step rfl (fun K hK => ?_)
      go_simp
      go_at_call 115
      refine (cS.out _).mono ?_
      rintro e w3 ⟨rfl, hb3⟩
      refine hK _ _ ⟨by simpa using hz, v3, v4, .agg #[.int .i64 s.k, .int .i64 s.a, .int .i64 s.b, .int .i64 s.c, .int .i64 s.u, .int .i64 s.v, .int .i64 s.x], .int .i64 Z, v7, v8, rfl, ?_⟩
      exact ⟨fun e => K0.out (hne.out 0 (by decide) e), fun e => K1.out (hne.out 1 (by decide) e), fun e => K2.out (hne.out 2 (by decide) e), fun _ => rfl, fun e => K4.out (hne.out 4 (by decide) e), fun e => K5.out (hne.out 5 (by decide) e), hB.trans (hb3.mono hB.size)⟩
    · cases ho
      have d3 := hd ⟨3, .data⟩ (by simp) rfl
      obtain rfl := K3.out d3
      refine wpOp_step rfl (fun K hK => ?_)
      go_simp
      go_at_call 91
      refine (cB.out _).mono ?_
      rintro e w3 ⟨rfl, rfl⟩
      refine hK _ _ ⟨by simpa using hz, v3, v4, v5, .int .i64 Z, .int .i64 (bitN Z), v8, rfl, ?_⟩
      exact ⟨fun e => K0.out (hne.out 0 (by decide) e), fun e => K1.out (hne.out 1 (by decide) e), fun e => K2.out (hne.out 2 (by decide) e), fun e => K3.out (hne.out 3 (by decide) e), fun _ => rfl, fun e => K5.out (hne.out 5 (by decide) e), hB⟩
    · cases ho
      have d1 := hd ⟨1, .data⟩ (by simp) rfl
      have d4 := hd ⟨4, .data⟩ (by simp) rfl
      obtain rfl := K1.out d1
      obtain rfl := K4.out d4
      refine wpOp_step rfl (fun K hK => ?_)
      go_simp
      refine hK _ _ ⟨by simpa using hz, v3, .int .i64 R, v5, v6, .int .i64 (bitN Z), .int .i64 N, rfl, ?_⟩
      exact ⟨fun e => K0.out (hne.out 0 (by decide) e), fun e => K1.out (hne.out 1 (by decide) e), fun e => K2.out (hne.out 2 (by decide) e), fun e => K3.out (hne.out 3 (by decide) e), fun e => K4.out (hne.out 4 (by decide) e), fun _ => rfl, hB⟩
  case hl =>
    rintro listed aq wx ⟨hz, v3, v4, v5, v6, v7, v8, rfl, hII⟩ hall
    have K0 := Lib.hid hII.1
    have K1 := Lib.hid hII.2.1
    have K2 := Lib.hid hII.2.2.1
    have K3 := Lib.hid hII.2.2.2.1
    have K4 := Lib.hid hII.2.2.2.2.1
    have K5 := Lib.hid hII.2.2.2.2.2.1
    have hB : Below W0.heap.size W0 wx := hII.2.2.2.2.2.2
    have hx := hH.out.kept hB
    clear hII
    obtain rfl := K0.out (hall 0 (by decide))
    obtain rfl := K1.out (hall 1 (by decide))
    obtain rfl := K2.out (hall 2 (by decide))
    obtain rfl := K3.out (hall 3 (by decide))
    obtain rfl := K4.out (hall 4 (by decide))
    obtain rfl := K5.out (hall 5 (by decide))
    clear hall K0 K1 K2 K3 K4 K5
    refine wpOp_step rfl (fun K0 hK0 => ?_)
    go_simp
    refine hK0 _ _ ?_
    clear hK0
    have hB5 := hB0.out.trans (hB.mono hB0.out.size)
    go_wp2_with fail
    go_ret
    exact ⟨rfl, hB5⟩
theorem plain_oks {ps : List St} (h : plainOk ps = true) : ∀ s ∈ ps, s.ok = true ∧ s.k < 6 := fun s hs => by
  unfold plainOk at h
  rw [Bool.and_eq_true] at h
  obtain ⟨os, ho⟩ := Option.isSome_iff_exists.1 h.1
  have h1 := (unrolled_ok ho).1
  exact ⟨List.all_eq_true.1 h1 s hs, of_decide_eq_true (List.all_eq_true.1 h.2 s hs)⟩
theorem sing_step {ps : List St} {k : Nat} {s : St} {L : Int} (hs : ps[k]? = some s) : singF (ps.drop k) L = (oneOk s L && singF (ps.drop (k + 1)) (bor L (named s))) := by
  rw [List.drop_eq_getElem_cons (List.getElem?_eq_some_iff.1 hs).1, (List.getElem?_eq_some_iff.1 hs).2]
  rfl
set_option maxHeartbeats 2000000 in
theorem SingleOk_any (A : Option Addr) (n c : Nat) (ps : List St) (w : World) (h : Lst w w.heap.size A n ps) (hn : n ≤ c) (hc : c ≤ maxLen) :
    Calls Try.prog 62 #[.slice A n c] w fun e w' => e = .returned (.bool (single ps)) ∧ Below w.heap.size w w' := by
  have hC := Lib.hid (fun wx (hx : Lst wx wx.heap.size A n ps) => PlainOk_any A n c ps wx hx hn hc)
  have hl := h.1
  have hH := Lib.hid h
  have hcc : n ≤ 9223372036854775807 := by unfold maxLen at hc; omega
  clear h hc
  by_cases hn4 : n ≤ 4
  · have hn4' : ¬ (n : Int) > 4 := by omega
    cases hp : plainOk ps
    · have hR := Lib.hid (show single ps = false by unfold single; rw [hp]; rfl)
      rw [hp] at hC
      clear hp
      go_enter Try.func62, Try.ntmps62
      go_wp2_with fail
      refine (hC.out _ hH.out).mono ?_
      rintro e w1 ⟨rfl, hb⟩
      go_wp2_with fail
      go_ret
      exact ⟨ret_bool hR.out, hb⟩
    · have hS := Lib.hid (show single ps = singF ps 0 by unfold single; rw [hp, decide_eq_true (by omega)]; rfl)
      have hOK := Lib.hid (plain_oks hp)
      rw [hp] at hC
      clear hp
      go_enter Try.func62, Try.ntmps62
      go_wp2_with fail
      refine (hC.out _ hH.out).mono ?_
      rintro e w1 ⟨rfl, hb⟩
      have hbh := Lib.hid hb
      clear hb
      go_wp2_with fail
      go_loopg [3, 16] n (fun gn o v wr => ∃ (k : Nat) (L : Int), k ≤ n ∧ gn = n - k ∧ v = .int .i64 k ∧ o = .int .i64 L ∧ (0 ≤ L ∧ L ≤ 15) ∧ singF ps 0 = singF (ps.drop k) L ∧ Below w.heap.size w wr)
      case atStart => exact ⟨0, 0, Nat.zero_le _, rfl, rfl, rfl, by decide, rfl, hbh.out⟩
      case round =>
        obtain ⟨k, L, hk, hgn, rfl, rfl, hL, hSF, hB⟩ := hrel
        have hgk : gk = n - k := hgn
        have hBh := Lib.hid hB
        have hLh := Lib.hid hL
        clear hgn
        by_cases hlt : k < n
        · obtain ⟨g, off, s, rfl, hg, hs, hat⟩ := (hH.out.below hB).at_ hlt
          obtain ⟨c0, c1, c2, c3, c4, c5, c6⟩ := hat.open_
          have hk0 : (0 : Int) ≤ (k : Int) := by omega
          have hk1 : (k : Int) < (n : Int) := by omega
          have hz := hB.size
          obtain ⟨hok, hk6⟩ := hOK.out s (List.mem_of_getElem? hs)
          have hst := sing_step (L := L) hs
          rw [hst] at hSF
          have hSFh := Lib.hid hSF
          have hat2 := and_sets s hok hL
          have cD := Lib.hid (fun wx => isDraw_any s wx)
          have cW := Lib.hid (fun wx => isWeigh_any s wx)
          have cZ : Hid (∀ wx : World, Calls Try.prog 115 #[.agg #[.int .i64 s.k, .int .i64 s.a, .int .i64 s.b, .int .i64 s.c, .int .i64 s.u, .int .i64 s.v, .int .i64 s.x]] wx fun e w' => e = .returned (.int .i64 s.sets) ∧ Below wx.heap.size wx w') := Lib.hid (fun wx => StmtSets_any s.k s.a s.b s.c s.u s.v s.x wx)
          have cB := Lib.hid (fun wx => bitOf_any s.sets wx)
          have cN := Lib.hid (fun wx => namedIn_any s wx)
          have hbx := Lib.hid (Has.new wr 116 #[.int .i64 s.k, .int .i64 s.a, .int .i64 s.b, .int .i64 s.c, .int .i64 s.u, .int .i64 s.v, .int .i64 s.x])
          have hB0 := Lib.hid (hB.alloc hz (.cells #[.int .i64 s.k, .int .i64 s.a, .int .i64 s.b, .int .i64 s.c, .int .i64 s.u, .int .i64 s.v, .int .i64 s.x] 116))
          have hor := bits_or hL (named_bd s)
          have hNb := Lib.hid (bor_bd (a := L) (b := named s) hL.2 (named_bd s).2)
          have hone := Lib.hid (show oneOk s L = ((s.draws || s.weighs) && !(decide (0 ≤ s.sets) && tb L s.sets.toNat)) from rfl)
          clear hSF hst hs hat hB hok
          generalize oneOk s L = o1 at hSFh hone
          generalize hTB : (decide (0 ≤ s.sets) && tb L s.sets.toNat) = tbb at hat2 hone
          cases hd : s.draws
          · cases hw : s.weighs
            · rw [hd] at cD
              rw [hw] at cW
              have hR := Lib.hid (show single ps = false by rw [hS.out, hSFh.out, hone.out, hd, hw]; rfl)
              clear hd hw
              go_wp2_with fail
              clear c0 c1 c2 c3 c4 c5 c6
              generalize wr.alloc (.cells #[.int .i64 s.k, .int .i64 s.a, .int .i64 s.b, .int .i64 s.c, .int .i64 s.u, .int .i64 s.v, .int .i64 s.x] 116) = W0 at hbx hB0 ⊢
              refine (cD.out _).mono ?_
              rintro e w2 ⟨rfl, hb2⟩
              have hB2 := Lib.hid (hB0.out.trans (hb2.mono hB0.out.size))
              have hx2 := Lib.hid (hbx.out.kept hb2)
              have cx := hx2.out.cell
              clear hb2
              go_wp2_with fail
              clear cx
              refine (cW.out _).mono ?_
              rintro e w3 ⟨rfl, hb3⟩
              have hB3 := hB2.out.trans (hb3.mono hB2.out.size)
              go_wp2_with fail
              go_ret
              exact ⟨ret_bool hR.out, hB3⟩
            · cases tbb
              · rw [hd] at cD
                rw [hw] at cW
                have ho1 : o1 = true := by rw [hone.out, hd, hw]; rfl
                rw [ho1, Bool.true_and] at hSFh
                clear hd hw
                go_wp2_with fail
                clear c0 c1 c2 c3 c4 c5 c6
                generalize wr.alloc (.cells #[.int .i64 s.k, .int .i64 s.a, .int .i64 s.b, .int .i64 s.c, .int .i64 s.u, .int .i64 s.v, .int .i64 s.x] 116) = W0 at hbx hB0 ⊢
                refine (cD.out _).mono ?_
                rintro e w2 ⟨rfl, hb2⟩
                have hB2 := Lib.hid (hB0.out.trans (hb2.mono hB0.out.size))
                have hx2 := Lib.hid (hbx.out.kept hb2)
                have cx := hx2.out.cell
                clear hb2
                go_wp2_with fail
                clear cx
                refine (cW.out _).mono ?_
                rintro e w3 ⟨rfl, hb3⟩
                have hB3 := Lib.hid (hB2.out.trans (hb3.mono hB2.out.size))
                have hx3 := Lib.hid (hx2.out.kept hb3)
                have cx := hx3.out.cell
                clear hb3
                go_wp2_with fail
                clear cx
                refine (cZ.out _).mono ?_
                rintro e w4 ⟨rfl, hb4⟩
                have hB4 := Lib.hid (hB3.out.trans (hb4.mono hB3.out.size))
                have hx4 := Lib.hid (hx3.out.kept hb4)
                have cx := hx4.out.cell
                clear hb4
                go_wp2_with fail
                refine (cB.out _).mono ?_
                rintro e w' ⟨rfl, rfl⟩
                go_wp2_with fail
                clear cx
                refine (cN.out _).mono ?_
                rintro e w5 ⟨rfl, hb5⟩
                have hB5 := Lib.hid (hB4.out.trans (hb5.mono hB4.out.size))
                clear hb5
                go_wp2_with fail
                go_roundg (n - (k + 1))
                case measure => omega
                case rel => exact ⟨k + 1, _, by omega, rfl, by go_num, rfl, hNb.out, hSFh.out, hB5.out⟩
              · rw [hd] at cD
                rw [hw] at cW
                have hR := Lib.hid (show single ps = false by rw [hS.out, hSFh.out, hone.out]; simp)
                clear hd hw
                go_wp2_with fail
                clear c0 c1 c2 c3 c4 c5 c6
                generalize wr.alloc (.cells #[.int .i64 s.k, .int .i64 s.a, .int .i64 s.b, .int .i64 s.c, .int .i64 s.u, .int .i64 s.v, .int .i64 s.x] 116) = W0 at hbx hB0 ⊢
                refine (cD.out _).mono ?_
                rintro e w2 ⟨rfl, hb2⟩
                have hB2 := Lib.hid (hB0.out.trans (hb2.mono hB0.out.size))
                have hx2 := Lib.hid (hbx.out.kept hb2)
                have cx := hx2.out.cell
                clear hb2
                go_wp2_with fail
                clear cx
                refine (cW.out _).mono ?_
                rintro e w3 ⟨rfl, hb3⟩
                have hB3 := Lib.hid (hB2.out.trans (hb3.mono hB2.out.size))
                have hx3 := Lib.hid (hx2.out.kept hb3)
                have cx := hx3.out.cell
                clear hb3
                go_wp2_with fail
                clear cx
                refine (cZ.out _).mono ?_
                rintro e w4 ⟨rfl, hb4⟩
                have hB4 := Lib.hid (hB3.out.trans (hb4.mono hB3.out.size))
                clear hb4
                go_wp2_with fail
                refine (cB.out _).mono ?_
                rintro e w' ⟨rfl, rfl⟩
                go_wp2_with fail
                go_ret
                exact ⟨ret_bool hR.out, hB4.out⟩
          · cases tbb
            · rw [hd] at cD
              have ho1 : o1 = true := by rw [hone.out, hd]; rfl
              rw [ho1, Bool.true_and] at hSFh
              clear hd
              go_wp2_with fail
              clear c0 c1 c2 c3 c4 c5 c6
              generalize wr.alloc (.cells #[.int .i64 s.k, .int .i64 s.a, .int .i64 s.b, .int .i64 s.c, .int .i64 s.u, .int .i64 s.v, .int .i64 s.x] 116) = W0 at hbx hB0 ⊢
              refine (cD.out _).mono ?_
              rintro e w2 ⟨rfl, hb2⟩
              have hB2 := Lib.hid (hB0.out.trans (hb2.mono hB0.out.size))
              have hx2 := Lib.hid (hbx.out.kept hb2)
              have cx := hx2.out.cell
              clear hb2
              go_wp2_with fail
              clear cx
              refine (cZ.out _).mono ?_
              rintro e w4 ⟨rfl, hb4⟩
              have hB4 := Lib.hid (hB2.out.trans (hb4.mono hB2.out.size))
              have hx4 := Lib.hid (hx2.out.kept hb4)
              have cx := hx4.out.cell
              clear hb4
              go_wp2_with fail
              refine (cB.out _).mono ?_
              rintro e w' ⟨rfl, rfl⟩
              go_wp2_with fail
              clear cx
              refine (cN.out _).mono ?_
              rintro e w5 ⟨rfl, hb5⟩
              have hB5 := Lib.hid (hB4.out.trans (hb5.mono hB4.out.size))
              clear hb5
              go_wp2_with fail
              go_roundg (n - (k + 1))
              case measure => omega
              case rel => exact ⟨k + 1, _, by omega, rfl, by go_num, rfl, hNb.out, hSFh.out, hB5.out⟩
            · rw [hd] at cD
              have hR := Lib.hid (show single ps = false by rw [hS.out, hSFh.out, hone.out]; simp)
              clear hd
              go_wp2_with fail
              clear c0 c1 c2 c3 c4 c5 c6
              generalize wr.alloc (.cells #[.int .i64 s.k, .int .i64 s.a, .int .i64 s.b, .int .i64 s.c, .int .i64 s.u, .int .i64 s.v, .int .i64 s.x] 116) = W0 at hbx hB0 ⊢
              refine (cD.out _).mono ?_
              rintro e w2 ⟨rfl, hb2⟩
              have hB2 := Lib.hid (hB0.out.trans (hb2.mono hB0.out.size))
              have hx2 := Lib.hid (hbx.out.kept hb2)
              have cx := hx2.out.cell
              clear hb2
              go_wp2_with fail
              clear cx
              refine (cZ.out _).mono ?_
              rintro e w4 ⟨rfl, hb4⟩
              have hB4 := Lib.hid (hB2.out.trans (hb4.mono hB2.out.size))
              clear hb4
              go_wp2_with fail
              refine (cB.out _).mono ?_
              rintro e w' ⟨rfl, rfl⟩
              go_wp2_with fail
              go_ret
              exact ⟨ret_bool hR.out, hB4.out⟩
        · obtain rfl : k = n := by omega
          have hR := Lib.hid (show single ps = true by rw [hS.out, hSF, List.drop_eq_nil_of_le (by omega)]; rfl)
          go_wp2_with fail
          go_ret
          exact ⟨ret_bool hR.out, hBh.out⟩
  · have hn4' : (n : Int) > 4 := by omega
    have hR := Lib.hid (show single ps = false by unfold single; rw [decide_eq_false (by omega), Bool.false_and, Bool.and_false])
    go_enter Try.func62, Try.ntmps62
    go_wp2_with fail
    go_ret
    exact ⟨ret_bool hR.out, Below.refl _ _⟩
end Go.Proofs.Ytghkpmafocacoaa
