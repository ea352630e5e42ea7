/- For every list of bytes: of the drawn statement and the drawn numbers the program's StepBack returns what the model's returns, PlainOk tells the same, and a plain drawn program backward is its statements backward, the last one first. No condition. -/
import Derived.Test.YtcphclkaddhfmaaRows
import Derived.Test.YtcphclkaddhfmaaDz
import Derived.Test.YtcphclkaddhfmaaNm
import Derived.Test.YtcphclkaddhfmaaKt
import Derived.ProofKit
import Derived.OpenShut
import Derived.ShutString
import Derived.ChangeOld
import Derived.Below
namespace Go.Proofs.Ytcphclkaddhfmaa.fnStepBack
open Go.ChangeShapes Go.WideShapes Go.ChangeAt Go.RowKit 
set_option linter.unusedVariables false
set_option maxRecDepth 100000

theorem own : ownKnob Try.prog.godebug = none := by kernel_rfl
theorem laidOut : laidOutB Try.prog = true := by kernel_rfl

theorem DrawWorthOf_any (A : Option Addr) (n c : Nat) (w : World) (h : Byt w w.heap.size A n) (hn : n ≤ c) (hc : c ≤ maxLen) :
    Calls Try.prog 35 #[.slice A n c] w (Psd w) := by
  have c1 := Lib.hid (l5Case_any A n c w h hn hc)
  clear h hc
  go_enter Try.func35, Try.ntmps35
  go_wp2_with fail
  refine (c1.out).mono ?_
  rintro e w1 ⟨v, u, ps, ds, rfl, ho, hl, hi, hd, hb⟩
  have hF := Lib.hid (show Psd w (.returned (.tuple #[v, u])) w1 from ⟨v, u, ps, ds, rfl, ho, hl, hi, hd, hb⟩)
  clear ho hi
  go_wp2_with fail
  go_ret2
  exact hF.out
def Sbd (w : World) (e : Ending) (w' : World) : Prop := ∃ (s : St) (u : Value) (ds : List Int), e = .returned (.tuple #[.agg #[.int .i64 s.k, .int .i64 s.a, .int .i64 s.b, .int .i64 s.c, .int .i64 s.u, .int .i64 s.v, .int .i64 s.x], u]) ∧ IOwn w' w.heap.size u ds ∧ ds.length ≤ 82 ∧ Below w.heap.size w w'
set_option maxHeartbeats 1000000 in
theorem DrawStepBack_any (A : Option Addr) (n c : Nat) (w : World) (h : Byt w w.heap.size A n) (hn : n ≤ c) (hc : c ≤ maxLen) :
    Calls Try.prog 36 #[.slice A n c] w (Sbd w) := by
  have hB0 : Below w.heap.size w (w.alloc (.cells #[.int .i64 0, .int .i64 0, .int .i64 0, .int .i64 0, .int .i64 0, .int .i64 0, .int .i64 0] 49)) := (Below.refl _ _).alloc (Nat.le_refl _) _
  have hR0 := Has.new w 49 #[.int .i64 0, .int .i64 0, .int .i64 0, .int .i64 0, .int .i64 0, .int .i64 0, .int .i64 0]
  have c1 := Lib.hid (l5Case_any A n c _ ((h.keep hB0).more hB0.size) hn hc)
  have c2 := Lib.hid (fun wx (hb : Below w.heap.size w wx) => DrawStmtOk_any A n c wx ((h.keep hb).more hb.size) hn hc)
  clear h hc
  go_enter Try.func36, Try.ntmps36
  go_wp2_with fail
  refine (c1.out).mono ?_
  rintro e w1 ⟨v, u, ps, ds, rfl, ho, hl, hi, hd, hb⟩
  obtain ⟨D1, k1, rfl, _, _⟩ := hi.form
  have hz : w.heap.size ≤ (w.alloc (.cells #[.int .i64 0, .int .i64 0, .int .i64 0, .int .i64 0, .int .i64 0, .int .i64 0, .int .i64 0] 49)).heap.size := hB0.size
  have hzs : (w.alloc (.cells #[.int .i64 0, .int .i64 0, .int .i64 0, .int .i64 0, .int .i64 0, .int .i64 0, .int .i64 0] 49)).heap.size = w.heap.size + 1 := by simp
  have hB1 := hB0.trans (hb.mono hz)
  have hR1 := hR0.kept hb
  have hi1 := Lib.hid hi
  have hRh1 := Lib.hid hR1
  clear ho hi hb hR0 hB0 hR1
  go_wp2_with fail
  refine (c2.out _ hB1).mono ?_
  rintro e w2 ⟨sk, sa, sb, sd, su, sv, sx, rfl, hb2⟩
  have hR2 := hRh1.out.kept hb2
  have hi2 := Lib.hid (hi1.out.below hb2)
  have hB2 := hB1.trans (hb2.mono hB1.size)
  have cr := hR2.cell
  have fr := hR2.frozen
  clear hi1 hRh1
  go_wp2
  refine bodyPost_ret (v := .tuple #[.agg #[.int .i64 sk, .int .i64 sa, .int .i64 sb, .int .i64 sd, .int .i64 su, .int .i64 sv, .int .i64 sx], .slice D1 ds.length k1]) (by simp [results, Try.results36, go_sem, cr]) rfl ⟨⟨sk, sa, sb, sd, su, sv, sx⟩, _, ds, rfl, ?_, hd, ?_⟩
  · have hk : KeptBut w2 (((((((w2.setCell ⟨w.heap.size, 0, none⟩ (.int .i64 sk)).setCell ⟨w.heap.size, 1, none⟩ (.int .i64 sa)).setCell ⟨w.heap.size, 2, none⟩ (.int .i64 sb)).setCell ⟨w.heap.size, 3, none⟩ (.int .i64 sd)).setCell ⟨w.heap.size, 4, none⟩ (.int .i64 su)).setCell ⟨w.heap.size, 5, none⟩ (.int .i64 sv)).setCell ⟨w.heap.size, 6, none⟩ (.int .i64 sx)) (fun i => i = w.heap.size) := by
      iterate 7 (refine KeptBut.put (S := fun i => i = w.heap.size) ?_ (fun _ => rfl) _)
      exact KeptBut.refl _ _
    exact owns_le (owns_but hi2.out hk (fun i hi9 e => by
      have := (World.ownsRow.lt hi2.out i hi9).1
      omega)) (by omega)
  · iterate 7 (refine Below.setCell ?_ (by simp) _)
    exact hB2
theorem sb_no {s : St} {ds : List Int} (h : sbOk s ds = false) : sbOf s ds = [] := by
  unfold sbOf
  rw [h]; simp
theorem sb_len (s : St) (ds : List Int) : (sbOf s ds).length ≤ 81 := by
  unfold sbOf
  split
  · rw [rowL_length]; exact Nat.le_refl _
  · simp
theorem vb_no {ps : List St} {ds : List Int} (h : vbOk ps ds = false) : vbOf ps ds = [] := by
  unfold vbOk at h
  unfold vbOf
  cases hu : unrolled ps with
  | none => rfl
  | some os =>
    rw [hu] at h
    have hk : lstOk 9 ds = false := by simpa using h
    dsimp only
    rw [hk]; simp
/-- A plain program is its own statements unrolled. -/
theorem plain_self {ps : List St} (h : plainOk ps = true) : unrolled ps = some ps := by
  unfold plainOk at h
  rw [Bool.and_eq_true] at h
  cases hu : unrolled ps with
  | none => rw [hu] at h; exact absurd h.1 (by decide)
  | some os =>
    obtain ⟨_, _, h3, _, _⟩ := unrolled_parts hu
    have hs := unr_self ps (fun x hx => by
      have h9 := List.all_eq_true.1 h.2 x hx
      unfold St.low at h9
      unfold St.notLoop
      have : x.k < 6 := by simpa using h9
      simp
      omega)
    rw [h3] at hs
    rw [hs]
theorem vb_plain {ps : List St} {ds : List Int} (h : vbOk ps ds = true) (hp : plainOk ps = true) : ds.length = 81 ∧ vbOf ps ds = rowL (valAt (hOf ds) ps 0) ∧ ds = rowL (valAt (hOf ds) ps ps.length) := by
  have hu := plain_self hp
  unfold vbOk at h
  rw [hu] at h
  have hk : lstOk 9 ds = true := by simpa using h
  have hl := (lstOk_bd hk).1
  refine ⟨hl, ?_, ?_⟩
  · unfold vbOf; rw [hu]; simp [hk]
  · have e1 : valAt (hOf ds) ps ps.length = hOf ds := funext fun st => valAt_end (Nat.le_refl _) st
    rw [e1, rowL_self hl]
theorem sb_row {h : Int → Int} {ps : List St} {s : St} {i : Nat} (hs : ps[i]? = some s) (hok : sbOk s (rowL (valAt h ps (i + 1))) = true) : sbOf s (rowL (valAt h ps (i + 1))) = rowL (valAt h ps i) := by
  have h0 := hok
  unfold sbOk at h0
  rw [Bool.and_eq_true, Bool.and_eq_true, Bool.and_eq_true] at h0
  unfold sbOf
  rw [if_pos hok]
  exact one_row hs h0.1.1.1 (by simpa using h0.1.1.2)

set_option maxHeartbeats 4000000 in
theorem walk {H : Type} (enc : TypeId × Value → H) (W : World) (base : Nat) (v0 : Value) (d0 : DataW H) (p0 : List MemPlace) (hv0 : Value.okWide Try.prog W .any base 22 v0)
    (h0 : DataW.Trod enc Try.prog W 0 (fun _ => true) true 22 v0 d0 p0) (_ : ∀ x ∈ p0, x.block < W.heap.size) :
    Calls Try.prog 10 #[v0] W fun e w' => e = .returned (.bool true) ∧ Below W.heap.size W w' := by
  obtain ⟨A, n, c, rfl, hn, hc, hb⟩ := open_bytes hv0 h0
  clear hv0 h0
  have hcM := Lib.hid hc
  have hnn : n ≤ 9223372036854775807 := by unfold maxLen at hc; omega
  have hby := Lib.hid hb
  clear hc hb
  by_cases h1 : 1048576 < n
  · go_enter Try.func10, Try.ntmps10
    go_wp2_with fail
    go_ret
    exact ⟨rfl, Below.refl _ _⟩
  have hni : ¬ ((1048576 : Int) < (n : Int)) := by omega
  go_enter Try.func10, Try.ntmps10
  go_wp2_with fail
  refine (DrawWorthOf_any A n c _ hby.out hn hcM.out).mono ?_
  rintro e w0 ⟨v, u, ps, ds, rfl, hO, hl11, hI, hd82, hB0⟩
  obtain ⟨A1, c1, hv, hlc, hcm⟩ := hO.form
  subst hv
  obtain ⟨D1, k1, hu1, hkc, hkm⟩ := hI.form
  subst hu1
  have hO0 := Lib.hid hO
  have hI0 := Lib.hid hI
  have hB0' := Lib.hid hB0
  clear hO hI
  go_wp2_with fail
  refine (DrawStepBack_any A n c _ ((hby.out.keep hB0).more hB0.size) hn hcM.out).mono ?_
  rintro e w1 ⟨s, u2, gs, rfl, hG, hg82, hb1⟩
  obtain ⟨G1, g1, hu2, hgc, hgm⟩ := hG.form
  subst hu2
  have hP1 := Lib.hid ((hO0.out.below hb1).lst)
  have hD1 := Lib.hid ((hI0.out.below hb1).lst)
  have hG1 := Lib.hid hG.lst
  have hB1' := Lib.hid (hB0'.out.trans (hb1.mono hB0'.out.size))
  have hbg : ps.length ≤ 1048576 := by omega
  have hdl : ds.length ≤ maxLen := Nat.le_trans hkc hkm
  have hgl : gs.length ≤ maxLen := Nat.le_trans hgc hgm
  have hlx := Lib.hid (fun wx (hx : Below w1.heap.size w1 wx) => (hP1.out.below hx).more hx.size)
  have hdx := Lib.hid (fun wx (hx : Below w1.heap.size w1 wx) => (hD1.out.below hx).more hx.size)
  have hgx := Lib.hid (fun wx (hx : Below w1.heap.size w1 wx) => (hG1.out.below hx).more hx.size)
  have cB := Lib.hid (fun wx hx => StepBack_any s G1 gs.length g1 gs wx (hgx.out wx hx) hgl)
  have cBs := Lib.hid (fun wx hx => specStepBack_any s G1 gs.length g1 gs wx (hgx.out wx hx) hgl)
  have cQ := Lib.hid (fun wx hx => PlainOk_any A1 ps.length c1 ps wx (hlx.out wx hx) hlc hcm)
  have cQs := Lib.hid (fun wx hx => specPlainOk_any A1 ps.length c1 ps wx (hlx.out wx hx) hlc hcm hbg)
  have cV := Lib.hid (fun wx hx => ValuesBack_any A1 D1 ps.length c1 ds.length k1 ps ds wx (hlx.out wx hx) hlc hcm (hdx.out wx hx) hdl)
  unfold Lbd at cB cBs cV
  have hsl := sb_len s gs
  have hNo := Lib.hid (sb_no (s := s) (ds := gs))
  generalize sbOf s gs = xs at cB cBs hsl hNo
  have hX := Lib.hid (Has.new w1 49 #[.int .i64 s.k, .int .i64 s.a, .int .i64 s.b, .int .i64 s.c, .int .i64 s.u, .int .i64 s.v, .int .i64 s.x])
  have hbX : Below w1.heap.size w1 (w1.alloc (.cells #[.int .i64 s.k, .int .i64 s.a, .int .i64 s.b, .int .i64 s.c, .int .i64 s.u, .int .i64 s.v, .int .i64 s.x] 49)) := (Below.refl _ _).alloc (Nat.le_refl _) _
  clear hG hb1 hB0
  cases hsk0 : sbOk s gs
  · rw [hsk0] at cB cBs
    obtain rfl := hNo.out hsk0
    clear hsk0
    have hvl := vbOf_len ps ds
    cases hvk : vbOk ps ds
    · rw [hvk] at cV
      have hz0 := vb_no hvk
      rw [hz0] at cV
      clear hvk hz0
      generalize plainOk ps = pk at cQ cQs
      have npk : (pk != pk) = false := by simp
      go_wp2_with (first
        | (go_at_call 31; refine (cB.out _ hbX).mono ?_; rintro e w2 ⟨v2, rfl, ho2, hb2⟩; obtain ⟨A2, c2, rfl, hc21, hc22⟩ := ho2.form; have hb2' := hbX.trans (hb2.mono hbX.size); have hX2 := (hX.out.kept hb2).cell)
        | (go_at_call 29; refine (cBs.out _ hb2').mono ?_; rintro e w3 ⟨v3, rfl, ho3, hb3⟩; obtain ⟨A3, c3, rfl, hc31, hc32⟩ := ho3.form; have hb3' := hb2'.trans (hb3.mono hb2'.size))
        | (go_at_call 14; refine (wcInts_any A2 A3 _ _ c2 c3 _ _ _ (IOwn.lst (ho2.below hb3)) ho3.lst (by unfold maxLen; omega) (by unfold maxLen; omega)).mono ?_; rintro e w4 ⟨rfl, q4, rfl⟩; have hb4' := below_drewN hb3' q4)
        | (go_at_call 37; first | (refine (cQ.out _ hb7').mono ?_; rintro e w8 ⟨rfl, hb8⟩; have hb8' := hb7'.trans (hb8.mono hb7'.size); have hv8 := hv7.below hb8) | (refine (cQ.out _ hb4').mono ?_; rintro e w5 ⟨rfl, hb5⟩; have hb5' := hb4'.trans (hb5.mono hb4'.size)))
        | (go_at_call 38; refine (cQs.out _ hb5').mono ?_; rintro e w6 ⟨rfl, hb6⟩; have hb6' := hb5'.trans (hb6.mono hb5'.size))
        | (go_at_call 23; refine (cV.out _ hb6').mono ?_; rintro e w7 ⟨v7, rfl, ho7, hb7⟩; obtain ⟨A7, c7, hf7, hc71, hc72⟩ := ho7.form; (try rw [rowL_length] at hf7); subst hf7; have hb7' := hb6'.trans (hb7.mono hb6'.size); have hv7 := ho7))
      go_ret
      exact ⟨rfl, hB1'.out.trans (hb7'.mono hB1'.out.size)⟩
    · rw [hvk] at cV
      cases hpk : plainOk ps
      · rw [hpk] at cQ cQs
        clear hpk hvk
        generalize vbOf ps ds = bk at cV hvl
        go_wp2_with (first
          | (go_at_call 31; refine (cB.out _ hbX).mono ?_; rintro e w2 ⟨v2, rfl, ho2, hb2⟩; obtain ⟨A2, c2, rfl, hc21, hc22⟩ := ho2.form; have hb2' := hbX.trans (hb2.mono hbX.size); have hX2 := (hX.out.kept hb2).cell)
          | (go_at_call 29; refine (cBs.out _ hb2').mono ?_; rintro e w3 ⟨v3, rfl, ho3, hb3⟩; obtain ⟨A3, c3, rfl, hc31, hc32⟩ := ho3.form; have hb3' := hb2'.trans (hb3.mono hb2'.size))
          | (go_at_call 14; refine (wcInts_any A2 A3 _ _ c2 c3 _ _ _ (IOwn.lst (ho2.below hb3)) ho3.lst (by unfold maxLen; omega) (by unfold maxLen; omega)).mono ?_; rintro e w4 ⟨rfl, q4, rfl⟩; have hb4' := below_drewN hb3' q4)
          | (go_at_call 37; first | (refine (cQ.out _ hb7').mono ?_; rintro e w8 ⟨rfl, hb8⟩; have hb8' := hb7'.trans (hb8.mono hb7'.size); have hv8 := hv7.below hb8) | (refine (cQ.out _ hb4').mono ?_; rintro e w5 ⟨rfl, hb5⟩; have hb5' := hb4'.trans (hb5.mono hb4'.size)))
          | (go_at_call 38; refine (cQs.out _ hb5').mono ?_; rintro e w6 ⟨rfl, hb6⟩; have hb6' := hb5'.trans (hb6.mono hb5'.size))
          | (go_at_call 23; refine (cV.out _ hb6').mono ?_; rintro e w7 ⟨v7, rfl, ho7, hb7⟩; obtain ⟨A7, c7, hf7, hc71, hc72⟩ := ho7.form; (try rw [rowL_length] at hf7); subst hf7; have hb7' := hb6'.trans (hb7.mono hb6'.size); have hv7 := ho7))
        go_ret
        exact ⟨rfl, hB1'.out.trans (hb8'.mono hB1'.out.size)⟩
      · have hpl := Lib.hid (vb_plain hvk hpk)
        rw [hpl.out.2.1] at cV hvl
        rw [hpk] at cQ cQs
        clear hpk hvk
        go_wp2_with (first
          | (go_at_call 31; refine (cB.out _ hbX).mono ?_; rintro e w2 ⟨v2, rfl, ho2, hb2⟩; obtain ⟨A2, c2, rfl, hc21, hc22⟩ := ho2.form; have hb2' := hbX.trans (hb2.mono hbX.size); have hX2 := (hX.out.kept hb2).cell)
          | (go_at_call 29; refine (cBs.out _ hb2').mono ?_; rintro e w3 ⟨v3, rfl, ho3, hb3⟩; obtain ⟨A3, c3, rfl, hc31, hc32⟩ := ho3.form; have hb3' := hb2'.trans (hb3.mono hb2'.size))
          | (go_at_call 14; refine (wcInts_any A2 A3 _ _ c2 c3 _ _ _ (IOwn.lst (ho2.below hb3)) ho3.lst (by unfold maxLen; omega) (by unfold maxLen; omega)).mono ?_; rintro e w4 ⟨rfl, q4, rfl⟩; have hb4' := below_drewN hb3' q4)
          | (go_at_call 37; first | (refine (cQ.out _ hb7').mono ?_; rintro e w8 ⟨rfl, hb8⟩; have hb8' := hb7'.trans (hb8.mono hb7'.size); have hv8 := hv7.below hb8) | (refine (cQ.out _ hb4').mono ?_; rintro e w5 ⟨rfl, hb5⟩; have hb5' := hb4'.trans (hb5.mono hb4'.size)))
          | (go_at_call 38; refine (cQs.out _ hb5').mono ?_; rintro e w6 ⟨rfl, hb6⟩; have hb6' := hb5'.trans (hb6.mono hb5'.size))
          | (go_at_call 23; refine (cV.out _ hb6').mono ?_; rintro e w7 ⟨v7, rfl, ho7, hb7⟩; obtain ⟨A7, c7, hf7, hc71, hc72⟩ := ho7.form; (try rw [rowL_length] at hf7); subst hf7; have hb7' := hb6'.trans (hb7.mono hb6'.size); have hv7 := ho7))
        have hv8' := Lib.hid hv8
        have hb8h := Lib.hid hb8'
        have hD8 := Lib.hid (hdx.out _ hb8')
        have hkm1 : IntKind.i64.wrap ((ps.length : Int) - 1) = (ps.length : Int) - 1 := IntWalk.i64_in _ (by omega)
        clear hb2 hb2' hX2 hb3 hb3' hb4' hb5 hb5' hb6 hb6' hb7 hb7' hv7 hb8 hb8' hv8 ho2 ho3 ho7 hbX
        go_wp2_with fail
        go_loopg [13, 14] ps.length (fun gn a v wr => ∃ (k : Nat) (An : Option Addr) (ln cn : Nat), k ≤ ps.length ∧ gn = k ∧ v = .int .i64 ((k : Int) - 1) ∧ a = .slice An ln cn ∧ ln = 81 ∧ Ils wr wr.heap.size An ln (rowL (valAt (hOf ds) ps k)) ∧ Below w8.heap.size w8 wr)
        case atStart => exact ⟨ps.length, D1, ds.length, k1, Nat.le_refl _, rfl, rfl, rfl, hpl.out.1, by rw [← hpl.out.2.2]; exact hD8.out, Below.refl _ _⟩
        case round =>
          obtain ⟨k, An, ln, cn, hk, hgn, rfl, rfl, hln, hIn, hbr⟩ := hrel
          subst hln
          obtain ⟨gk1, rfl⟩ : ∃ x, x = gk := ⟨_, rfl⟩
          obtain ⟨w9, rfl⟩ : ∃ x, x = wr := ⟨_, rfl⟩
          have hgk : gk1 = k := hgn
          have hI9 := Lib.hid hIn
          have hb9 := Lib.hid (hb8h.out.trans (hbr.mono hb8h.out.size))
          have hbr9 := Lib.hid hbr
          clear hgn hIn hbr
          by_cases hk0 : k = 0
          · subst hk0
            have cI := Lib.hid (wcInts_any An A7 81 81 cn c7 (rowL (valAt (hOf ds) ps 0)) (rowL (valAt (hOf ds) ps 0)) w9 hI9.out ((hv8'.out.below hbr9.out).lst) (by decide) (by decide))
            go_wp2_with (first | (go_at_call 14; refine (cI.out).mono ?_; rintro e w10 ⟨rfl, q10, rfl⟩))
            go_ret
            exact ⟨rfl, hB1'.out.trans ((below_drewN hb9.out _).mono hB1'.out.size)⟩
          · obtain ⟨i, hki⟩ : ∃ i, k = i + 1 := ⟨k - 1, by omega⟩
            have hkI : ((k : Int) - 1) = (i : Int) := by omega
            obtain ⟨ga, fa, sI, hA1, hga, hsI, hat⟩ := (hlx.out _ hb9.out).at_ (show i < ps.length by omega)
            obtain ⟨c0', c1', c2', c3', c4', c5', c6'⟩ := hat.open_
            have hi0 : (0 : Int) ≤ (i : Int) := by omega
            have hi1 : (i : Int) < (ps.length : Int) := by omega
            have hwd : IntKind.i64.wrap ((i : Int) - 1) = (i : Int) - 1 := IntWalk.i64_in _ (by omega)
            have cS := Lib.hid (StepBack_any sI An 81 cn (rowL (valAt (hOf ds) ps k)) w9 hI9.out (by decide))
            unfold Lbd at cS
            have hrow := Lib.hid (show sbOk sI (rowL (valAt (hOf ds) ps k)) = true → sbOf sI (rowL (valAt (hOf ds) ps k)) = rowL (valAt (hOf ds) ps i) from fun h => by
              rw [hki] at h ⊢
              exact sb_row hsI h)
            have hKi := Lib.hid hki
            rw [hkI]
            subst hA1
            clear hsI hat hki hkI
            cases hsk : sbOk sI (rowL (valAt (hOf ds) ps k))
            · rw [hsk] at cS
              clear hsk
              generalize sbOf sI (rowL (valAt (hOf ds) ps k)) = nx at cS
              go_wp2_with (first | (go_at_call 31; refine (cS.out).mono ?_; rintro e w10 ⟨v10, rfl, ho10, hb10⟩; obtain ⟨A10, c10, rfl, _, _⟩ := ho10.form))
              go_ret
              exact ⟨rfl, hB1'.out.trans ((hb9.out.trans (hb10.mono hb9.out.size)).mono hB1'.out.size)⟩
            · rw [hsk, hrow.out hsk] at cS
              clear hsk
              go_wp2_with (first | (go_at_call 31; refine (cS.out).mono ?_; rintro e w10 ⟨v10, rfl, ho10, hb10⟩; obtain ⟨A10, c10, rfl, _, _⟩ := ho10.form; have hI10 := Lib.hid ho10.lst; have hb10' := Lib.hid (hbr9.out.trans (hb10.mono hbr9.out.size))))
              go_roundg i
              case measure => have := hKi.out; omega
              case rel => exact ⟨i, A10, _, c10, by have := hKi.out; omega, rfl, by go_num, rfl, rowL_length _, hI10.out, hb10'.out⟩
  · rw [hsk0] at cB cBs
    clear hsk0 hNo
    have hvl := vbOf_len ps ds
    cases hvk : vbOk ps ds
    · rw [hvk] at cV
      have hz0 := vb_no hvk
      rw [hz0] at cV
      clear hvk hz0
      generalize plainOk ps = pk at cQ cQs
      have npk : (pk != pk) = false := by simp
      go_wp2_with (first
        | (go_at_call 31; refine (cB.out _ hbX).mono ?_; rintro e w2 ⟨v2, rfl, ho2, hb2⟩; obtain ⟨A2, c2, rfl, hc21, hc22⟩ := ho2.form; have hb2' := hbX.trans (hb2.mono hbX.size); have hX2 := (hX.out.kept hb2).cell)
        | (go_at_call 29; refine (cBs.out _ hb2').mono ?_; rintro e w3 ⟨v3, rfl, ho3, hb3⟩; obtain ⟨A3, c3, rfl, hc31, hc32⟩ := ho3.form; have hb3' := hb2'.trans (hb3.mono hb2'.size))
        | (go_at_call 14; refine (wcInts_any A2 A3 _ _ c2 c3 _ _ _ (IOwn.lst (ho2.below hb3)) ho3.lst (by unfold maxLen; omega) (by unfold maxLen; omega)).mono ?_; rintro e w4 ⟨rfl, q4, rfl⟩; have hb4' := below_drewN hb3' q4)
        | (go_at_call 37; first | (refine (cQ.out _ hb7').mono ?_; rintro e w8 ⟨rfl, hb8⟩; have hb8' := hb7'.trans (hb8.mono hb7'.size); have hv8 := hv7.below hb8) | (refine (cQ.out _ hb4').mono ?_; rintro e w5 ⟨rfl, hb5⟩; have hb5' := hb4'.trans (hb5.mono hb4'.size)))
        | (go_at_call 38; refine (cQs.out _ hb5').mono ?_; rintro e w6 ⟨rfl, hb6⟩; have hb6' := hb5'.trans (hb6.mono hb5'.size))
        | (go_at_call 23; refine (cV.out _ hb6').mono ?_; rintro e w7 ⟨v7, rfl, ho7, hb7⟩; obtain ⟨A7, c7, hf7, hc71, hc72⟩ := ho7.form; (try rw [rowL_length] at hf7); subst hf7; have hb7' := hb6'.trans (hb7.mono hb6'.size); have hv7 := ho7))
      go_ret
      exact ⟨rfl, hB1'.out.trans (hb7'.mono hB1'.out.size)⟩
    · rw [hvk] at cV
      cases hpk : plainOk ps
      · rw [hpk] at cQ cQs
        clear hpk hvk
        generalize vbOf ps ds = bk at cV hvl
        go_wp2_with (first
          | (go_at_call 31; refine (cB.out _ hbX).mono ?_; rintro e w2 ⟨v2, rfl, ho2, hb2⟩; obtain ⟨A2, c2, rfl, hc21, hc22⟩ := ho2.form; have hb2' := hbX.trans (hb2.mono hbX.size); have hX2 := (hX.out.kept hb2).cell)
          | (go_at_call 29; refine (cBs.out _ hb2').mono ?_; rintro e w3 ⟨v3, rfl, ho3, hb3⟩; obtain ⟨A3, c3, rfl, hc31, hc32⟩ := ho3.form; have hb3' := hb2'.trans (hb3.mono hb2'.size))
          | (go_at_call 14; refine (wcInts_any A2 A3 _ _ c2 c3 _ _ _ (IOwn.lst (ho2.below hb3)) ho3.lst (by unfold maxLen; omega) (by unfold maxLen; omega)).mono ?_; rintro e w4 ⟨rfl, q4, rfl⟩; have hb4' := below_drewN hb3' q4)
          | (go_at_call 37; first | (refine (cQ.out _ hb7').mono ?_; rintro e w8 ⟨rfl, hb8⟩; have hb8' := hb7'.trans (hb8.mono hb7'.size); have hv8 := hv7.below hb8) | (refine (cQ.out _ hb4').mono ?_; rintro e w5 ⟨rfl, hb5⟩; have hb5' := hb4'.trans (hb5.mono hb4'.size)))
          | (go_at_call 38; refine (cQs.out _ hb5').mono ?_; rintro e w6 ⟨rfl, hb6⟩; have hb6' := hb5'.trans (hb6.mono hb5'.size))
          | (go_at_call 23; refine (cV.out _ hb6').mono ?_; rintro e w7 ⟨v7, rfl, ho7, hb7⟩; obtain ⟨A7, c7, hf7, hc71, hc72⟩ := ho7.form; (try rw [rowL_length] at hf7); subst hf7; have hb7' := hb6'.trans (hb7.mono hb6'.size); have hv7 := ho7))
        go_ret
        exact ⟨rfl, hB1'.out.trans (hb8'.mono hB1'.out.size)⟩
      · have hpl := Lib.hid (vb_plain hvk hpk)
        rw [hpl.out.2.1] at cV hvl
        rw [hpk] at cQ cQs
        clear hpk hvk
        go_wp2_with (first
          | (go_at_call 31; refine (cB.out _ hbX).mono ?_; rintro e w2 ⟨v2, rfl, ho2, hb2⟩; obtain ⟨A2, c2, rfl, hc21, hc22⟩ := ho2.form; have hb2' := hbX.trans (hb2.mono hbX.size); have hX2 := (hX.out.kept hb2).cell)
          | (go_at_call 29; refine (cBs.out _ hb2').mono ?_; rintro e w3 ⟨v3, rfl, ho3, hb3⟩; obtain ⟨A3, c3, rfl, hc31, hc32⟩ := ho3.form; have hb3' := hb2'.trans (hb3.mono hb2'.size))
          | (go_at_call 14; refine (wcInts_any A2 A3 _ _ c2 c3 _ _ _ (IOwn.lst (ho2.below hb3)) ho3.lst (by unfold maxLen; omega) (by unfold maxLen; omega)).mono ?_; rintro e w4 ⟨rfl, q4, rfl⟩; have hb4' := below_drewN hb3' q4)
          | (go_at_call 37; first | (refine (cQ.out _ hb7').mono ?_; rintro e w8 ⟨rfl, hb8⟩; have hb8' := hb7'.trans (hb8.mono hb7'.size); have hv8 := hv7.below hb8) | (refine (cQ.out _ hb4').mono ?_; rintro e w5 ⟨rfl, hb5⟩; have hb5' := hb4'.trans (hb5.mono hb4'.size)))
          | (go_at_call 38; refine (cQs.out _ hb5').mono ?_; rintro e w6 ⟨rfl, hb6⟩; have hb6' := hb5'.trans (hb6.mono hb5'.size))
          | (go_at_call 23; refine (cV.out _ hb6').mono ?_; rintro e w7 ⟨v7, rfl, ho7, hb7⟩; obtain ⟨A7, c7, hf7, hc71, hc72⟩ := ho7.form; (try rw [rowL_length] at hf7); subst hf7; have hb7' := hb6'.trans (hb7.mono hb6'.size); have hv7 := ho7))
        have hv8' := Lib.hid hv8
        have hb8h := Lib.hid hb8'
        have hD8 := Lib.hid (hdx.out _ hb8')
        have hkm1 : IntKind.i64.wrap ((ps.length : Int) - 1) = (ps.length : Int) - 1 := IntWalk.i64_in _ (by omega)
        clear hb2 hb2' hX2 hb3 hb3' hb4' hb5 hb5' hb6 hb6' hb7 hb7' hv7 hb8 hb8' hv8 ho2 ho3 ho7 hbX
        go_wp2_with fail
        go_loopg [13, 14] ps.length (fun gn a v wr => ∃ (k : Nat) (An : Option Addr) (ln cn : Nat), k ≤ ps.length ∧ gn = k ∧ v = .int .i64 ((k : Int) - 1) ∧ a = .slice An ln cn ∧ ln = 81 ∧ Ils wr wr.heap.size An ln (rowL (valAt (hOf ds) ps k)) ∧ Below w8.heap.size w8 wr)
        case atStart => exact ⟨ps.length, D1, ds.length, k1, Nat.le_refl _, rfl, rfl, rfl, hpl.out.1, by rw [← hpl.out.2.2]; exact hD8.out, Below.refl _ _⟩
        case round =>
          obtain ⟨k, An, ln, cn, hk, hgn, rfl, rfl, hln, hIn, hbr⟩ := hrel
          subst hln
          obtain ⟨gk1, rfl⟩ : ∃ x, x = gk := ⟨_, rfl⟩
          obtain ⟨w9, rfl⟩ : ∃ x, x = wr := ⟨_, rfl⟩
          have hgk : gk1 = k := hgn
          have hI9 := Lib.hid hIn
          have hb9 := Lib.hid (hb8h.out.trans (hbr.mono hb8h.out.size))
          have hbr9 := Lib.hid hbr
          clear hgn hIn hbr
          by_cases hk0 : k = 0
          · subst hk0
            have cI := Lib.hid (wcInts_any An A7 81 81 cn c7 (rowL (valAt (hOf ds) ps 0)) (rowL (valAt (hOf ds) ps 0)) w9 hI9.out ((hv8'.out.below hbr9.out).lst) (by decide) (by decide))
            go_wp2_with (first | (go_at_call 14; refine (cI.out).mono ?_; rintro e w10 ⟨rfl, q10, rfl⟩))
            go_ret
            exact ⟨rfl, hB1'.out.trans ((below_drewN hb9.out _).mono hB1'.out.size)⟩
          · obtain ⟨i, hki⟩ : ∃ i, k = i + 1 := ⟨k - 1, by omega⟩
            have hkI : ((k : Int) - 1) = (i : Int) := by omega
            obtain ⟨ga, fa, sI, hA1, hga, hsI, hat⟩ := (hlx.out _ hb9.out).at_ (show i < ps.length by omega)
            obtain ⟨c0', c1', c2', c3', c4', c5', c6'⟩ := hat.open_
            have hi0 : (0 : Int) ≤ (i : Int) := by omega
            have hi1 : (i : Int) < (ps.length : Int) := by omega
            have hwd : IntKind.i64.wrap ((i : Int) - 1) = (i : Int) - 1 := IntWalk.i64_in _ (by omega)
            have cS := Lib.hid (StepBack_any sI An 81 cn (rowL (valAt (hOf ds) ps k)) w9 hI9.out (by decide))
            unfold Lbd at cS
            have hrow := Lib.hid (show sbOk sI (rowL (valAt (hOf ds) ps k)) = true → sbOf sI (rowL (valAt (hOf ds) ps k)) = rowL (valAt (hOf ds) ps i) from fun h => by
              rw [hki] at h ⊢
              exact sb_row hsI h)
            have hKi := Lib.hid hki
            rw [hkI]
            subst hA1
            clear hsI hat hki hkI
            cases hsk : sbOk sI (rowL (valAt (hOf ds) ps k))
            · rw [hsk] at cS
              clear hsk
              generalize sbOf sI (rowL (valAt (hOf ds) ps k)) = nx at cS
              go_wp2_with (first | (go_at_call 31; refine (cS.out).mono ?_; rintro e w10 ⟨v10, rfl, ho10, hb10⟩; obtain ⟨A10, c10, rfl, _, _⟩ := ho10.form))
              go_ret
              exact ⟨rfl, hB1'.out.trans ((hb9.out.trans (hb10.mono hb9.out.size)).mono hB1'.out.size)⟩
            · rw [hsk, hrow.out hsk] at cS
              clear hsk
              go_wp2_with (first | (go_at_call 31; refine (cS.out).mono ?_; rintro e w10 ⟨v10, rfl, ho10, hb10⟩; obtain ⟨A10, c10, rfl, _, _⟩ := ho10.form; have hI10 := Lib.hid ho10.lst; have hb10' := Lib.hid (hbr9.out.trans (hb10.mono hbr9.out.size))))
              go_roundg i
              case measure => have := hKi.out; omega
              case rel => exact ⟨i, A10, _, c10, by have := hKi.out; omega, rfl, by go_num, rfl, rowL_length _, hI10.out, hb10'.out⟩

set_option maxRecDepth 100000 in
theorem lifted (os : Os) (started : os.Started) (H : Type) (enc : TypeId × Value → H) :
    ReturnsInHanded {} Try.checked os 10 .any (Rows.fnStepBackSpec.pre6 enc Try.prog Try.f10 Rows.fnStepBackRow.domain false) (Rows.fnStepBackSpec.post enc Try.prog Try.f10 false true false false) := by
  refine returnsInHanded_of_change (C := Try.checked) own started (by kernel_rfl) Try.func10
    (ChangeSpec.witness6 (enc := enc) (C := Try.checked) false ⟨#[], #[.slice none 0 0], []⟩ 8 (by kernel_rfl) (by kernel_rfl) (by kernel_rfl) (by kernel_rfl)) ?_
  intro W base args ds gs before hval0 hW hcnd _
  have hval : ∀ (j : Nat) t v, Try.f10.params[j]? = some t → args[j]? = some v → Value.okWide Try.prog W .any base t v := hval0
  have hW' := hW
  obtain ⟨p, q, hA0, hV, rfl, hfz, hnd⟩ := hW
  have hA : DataW.TrodAll enc Try.prog W 0 (fun _ => true) true Try.f10.params.toList args.toList ds p := hA0
  rw [Try.params10] at hA hval
  obtain ⟨v0, vs0, d0, ds0, p0, q0, hargs, rfl, rfl, h0, r0⟩ := trodAll_cons hA
  obtain ⟨rfl, rfl, rfl⟩ := trodAll_nil r0
  obtain rfl : args = #[v0] := by cases args; simp_all
  obtain ⟨rfl, rfl⟩ := trodVars_none hV
  have lt0 : ∀ x ∈ p0, x.block < W.heap.size := by
    obtain ⟨m, hm⟩ := h0
    exact DataW.trod_lt m _ _ _ hm
  clear hA0 hval0
  refine (walk enc W base v0 d0 p0 (hval 0 22 v0 rfl rfl) h0 lt0).mono fun e W' ⟨he, bel⟩ => ?_
  subst he
  exact ⟨_, rfl, _, _, _, [], _, [], hW', trodAll_mk1 (shut_bool Try.underlying4 _), (trodAll_cons_mk (Below.trod laidOut (by kernel_rfl) (of_decide_eq_true (by kernel_rfl)) h0 bel lt0) trodAll_mk0), rfl, bel.frame _, fun h => by cases h⟩

theorem proved : Rows.FnStepBackSaid :=
  OpenClaim.holds_of_wide 10 Try.f10 rfl rfl rfl rfl rfl rfl rfl ⟨rfl, rfl, rfl, rfl, rfl⟩ rfl rfl rfl rfl rfl (by kernel_rfl) Try.func10 (by kernel_rfl)
    (of_decide_eq_true (by kernel_rfl)) (by unfold Func.isWrapper; first | (rw [if_pos (by decide +kernel)]; kernel_rfl) | (rw [if_neg (by decide +kernel)]; exact ⟨rfl, rfl⟩))
    (fun os started H enc _ => lifted os started H enc)
end Go.Proofs.Ytcphclkaddhfmaa.fnStepBack
