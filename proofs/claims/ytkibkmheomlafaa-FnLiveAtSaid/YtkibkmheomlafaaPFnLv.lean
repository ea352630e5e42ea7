/- For every list of bytes: of the drawn program, variables and index the program's LiveAt and PlainOk return what the model's return, and -1 in just the cases named; what does not hang ahead of a statement may have any value there; behind the last one just those that are asked hang. No condition. -/
import Derived.Test.YtkibkmheomlafaaRows
import Derived.Test.YtkibkmheomlafaaH3
import Derived.Test.YtkibkmheomlafaaH4
import Derived.Test.YtkibkmheomlafaaH6
import Derived.Test.YtkibkmheomlafaaH7
import Derived.Test.YtkibkmheomlafaaWs
import Derived.Test.YtkibkmheomlafaaNm
import Derived.Test.YtkibkmheomlafaaKt
import Derived.Test.YtkibkmheomlafaaOpB
import Derived.ProofKit
import Derived.OpenShut
import Derived.ShutString
import Derived.ChangeOld
import Derived.Below
namespace Go.Proofs.Ytkibkmheomlafaa.fnLiveAt
open Go.ChangeShapes Go.WideShapes Go.ChangeAt Go.RowKit 
set_option linter.unusedVariables false
set_option maxRecDepth 100000

theorem own : ownKnob Try.prog.godebug = none := by kernel_rfl
theorem laidOut : laidOutB Try.prog = true := by kernel_rfl

theorem lv_no {ps : List St} {vars x : Int} (h : (okS ps vars && inB x 0 ps.length) = false) : liveTo ps vars x = -1 := by
  unfold liveTo
  rw [if_neg]
  rintro ⟨h1, h2⟩
  rw [h1, h2] at h
  cases h
theorem lv_wts {ps : List St} (h : plainOk ps = true) (t : Nat) {st : Int} (hs : 0 ≤ st ∧ st ≤ 80) : isum (weightsFrom (ps.drop t) st) = val (fun _ => 1) (ps.drop t) 0 st ∧ (∀ x ∈ weightsFrom (ps.drop t) st, 0 ≤ x) ∧ isum (weightsFrom (ps.drop t) st) ≤ 1000000000000000000 := by
  obtain ⟨h1, h2⟩ := plain_iff.1 h
  have hq : plainOk (ps.drop t) = true := plain_iff.2 ⟨by rw [List.length_drop]; omega, fun s hs => h2 s (List.mem_of_mem_drop hs)⟩
  have hok : ∀ s ∈ ps.drop t, s.ok = true := fun s hs => (h2 s (List.mem_of_mem_drop hs)).1
  have e : weightsFrom (ps.drop t) st = wts (ps.drop t) st := wts_plain hq hs
  rw [e]
  refine ⟨wts_sum hok hs, fun x hx => wts_nonneg hok hs x hx, ?_⟩
  exact Int.le_trans (wts_top hok (by rw [List.length_drop]; omega) hs) (by decide)
theorem lv_yes {ps : List St} {vars : Int} {t : Nat} (h : okS ps vars = true) (ht : t ≤ ps.length) : liveTo ps vars t = needL (ps.drop t) vars ∧ (0 ≤ needL (ps.drop t) vars ∧ needL (ps.drop t) vars ≤ 15) ∧ (t = ps.length → needL (ps.drop t) vars = vars) ∧ ∀ v : Nat, v ≤ 3 → tb (needL (ps.drop t) vars) v = false → ∀ y : Int, 0 ≤ y ∧ y ≤ 2 → isum (weightsFrom (ps.drop t) (withValue 40 v y)) = val (fun _ => 1) (ps.drop t) 0 40 := by
  obtain ⟨hp, hv⟩ := okS_parts h
  have hok := (plain_iff.1 hp).2
  refine ⟨?_, needL_bd hv fun s hs => hok s (List.mem_of_mem_drop hs), fun e => ?_, fun v hv3 htb y hy => ?_⟩
  · unfold liveTo
    rw [if_pos ⟨h, inB_iff.2 ⟨by omega, by omega⟩⟩, Int.toNat_natCast]
  · rw [List.drop_eq_nil_of_le (by omega)]
    rfl
  · rw [(lv_wts hp t (with_bd (by decide) (by omega) hy)).1]
    exact live_any (fun s hs => hok s (List.mem_of_mem_drop hs)) hv3 htb (by decide) hy
theorem shr1_all : ∀ n : Fin 16, ∀ k : Fin 4, (((n.val : Int) / 2 ^ k.val).tmod 2 == 1) = tb (n.val : Int) k.val := by decide +kernel
theorem shr1_tb {L : Int} (hL : 0 ≤ L ∧ L ≤ 15) {k : Nat} (hk : k ≤ 3) : ((L / 2 ^ k).tmod 2 == 1) = tb L k := by
  obtain ⟨n, rfl⟩ := fin16 hL
  exact shr1_all n ⟨k, by omega⟩
theorem make3 : ∀ wx : World, (Instr.makeSlice 29 (.int .i64 3) (.int .i64 3)).run Try.prog wx = .ok (.slice (some ⟨wx.heap.size, 0, none⟩) 3 3) (wx.alloc (.cells #[.int .i64 0, .int .i64 0, .int .i64 0] 3)) := by
  intro wx
  obtain ⟨i0, hi0, hz0, hz1', hz2'⟩ := info_parts info_int
  have hr := run_make (P := Try.prog) wx 29 3 i0 _ Try.underlying29 hi0 hz0 .i64 .i64 3 3 (by omega) (by omega) (by rw [hz2']; omega) (by omega)
  rw [hz1'] at hr
  have e : madeCells (Value.int .i64 0).cells (Int.toNat 3 * 1) = #[.int .i64 0, .int .i64 0, .int .i64 0] := by kernel_rfl
  rw [e] at hr
  exact hr
theorem lst_if {w : World} {B n t c : Nat} {A : Option Addr} {ps : List St} (h : Lst w B A n ps) (ht : t ≤ n) (hc : n ≤ c) : Lst w B (if c = t then A else A.map fun x => x.add (t * 7)) (n - t) (ps.drop t) := by
  split
  · exact ⟨by rw [List.length_drop, h.1], fun hn => absurd hn (by omega)⟩
  · exact lst_from h ht
/-- What three sums are, the first of them being told. -/
def row3 (T : Int) (k : Nat) : Array Value := #[.int .i64 (if 0 < k then T else 0), .int .i64 (if 1 < k then T else 0), .int .i64 (if 2 < k then T else 0)]
theorem row3_put {T : Int} {k : Nat} (hk : k < 3) : (row3 T k).setIfInBounds k (.int .i64 T) = row3 T (k + 1) := by
  obtain rfl | rfl | rfl : k = 0 ∨ k = 1 ∨ k = 2 := by omega
  all_goals rfl

set_option maxHeartbeats 4000000 in
theorem walk {H : Type} (enc : TypeId × Value → H) (W : World) (base : Nat) (v0 : Value) (d0 : DataW H) (p0 : List MemPlace) (hv0 : Value.okWide Try.prog W .any base 22 v0)
    (h0 : DataW.Trod enc Try.prog W 0 (fun _ => true) true 22 v0 d0 p0) (_ : ∀ x ∈ p0, x.block < W.heap.size) :
    Calls Try.prog 4 #[v0] W fun e w' => e = .returned (.bool true) ∧ Below W.heap.size W w' := by
  obtain ⟨A, n, c, rfl, hn, hc, hb⟩ := open_bytes hv0 h0
  clear hv0 h0
  have hcM := Lib.hid hc
  have hnn : n ≤ 9223372036854775807 := by unfold maxLen at hc; omega
  clear hc
  by_cases h1 : 1048576 < n
  · go_enter Try.func4, Try.ntmps4
    go_wp2_with fail
    go_ret
    exact ⟨rfl, Below.refl _ _⟩
  go_enter Try.func4, Try.ntmps4
  go_wp2_with fail
  refine (DrawLiveAt_any A n c _ hb hn hcM.out).mono ?_
  rintro e w1 ⟨v, ps, vars, x, rfl, hO, hl, hxb, hB1⟩
  obtain ⟨AP, cP, hv, hlcP, hcmP⟩ := hO.form
  subst hv
  have hP1 := Lib.hid hO.lst
  have hB1' := Lib.hid hB1
  clear hB1 hb
  have hB1 := hB1'
  clear hB1'
  have hbg : ps.length ≤ 1048576 := by omega
  obtain ⟨t, rfl⟩ : ∃ t : Nat, x = t := ⟨x.toNat, by omega⟩
  have cL := Lib.hid (fun wx hx => LiveAt_any AP ps.length cP ps vars (t : Int) wx hx hlcP hcmP)
  have cLS := Lib.hid (fun wx hx => specLiveAt_any AP ps.length cP ps vars (t : Int) wx hx hlcP hcmP hbg)
  have cO := Lib.hid (fun wx hx => PlainOk_any AP ps.length cP ps wx hx hlcP hcmP)
  have cOS := Lib.hid (fun wx hx => specPlainOk_any AP ps.length cP ps wx hx hlcP hcmP hbg)
  have n1 : (liveTo ps vars t != liveTo ps vars t) = false := by simp
  have n2 : (plainOk ps != plainOk ps) = false := by simp
  have hps20 : ps.length ≤ 20 := hl
  have ht8 : t ≤ 8 := by omega
  clear hO hl hxb
  go_wp2_with fail
  refine (cL.out _ hP1.out).mono ?_
  rintro e w2 ⟨rfl, hb⟩
  have hP2 := Lib.hid ((hP1.out.below hb).more hb.size)
  clear hP1
  have hB2 := Lib.hid (hB1.out.trans (hb.mono hB1.out.size))
  clear hb hB1
  go_wp2_with fail
  refine (cLS.out _ hP2.out).mono ?_
  rintro e w3 ⟨rfl, hb⟩
  have hP3 := Lib.hid ((hP2.out.below hb).more hb.size)
  clear hP2
  have hB3 := Lib.hid (hB2.out.trans (hb.mono hB2.out.size))
  clear hb hB2
  go_wp2_with fail
  refine (cO.out _ hP3.out).mono ?_
  rintro e w4 ⟨rfl, hb⟩
  have hP4 := Lib.hid ((hP3.out.below hb).more hb.size)
  clear hP3
  have hB4 := Lib.hid (hB3.out.trans (hb.mono hB3.out.size))
  clear hb hB3
  go_wp2_with fail
  refine (cOS.out _ hP4.out).mono ?_
  rintro e w5 ⟨rfl, hb⟩
  have hP5 := Lib.hid ((hP4.out.below hb).more hb.size)
  clear hP4
  have hB5 := Lib.hid (hB4.out.trans (hb.mono hB4.out.size))
  clear hb hB4
  cases hk : (okS ps vars && inB (t : Int) 0 ps.length)
  · have hE := lv_no hk
    rw [hE]
    clear hE n1
    go_wp2_with fail
    refine (cO.out _ hP5.out).mono ?_
    rintro e w6 ⟨rfl, hb⟩
    have hP6 := Lib.hid ((hP5.out.below hb).more hb.size)
    clear hP5
    have hB6 := Lib.hid (hB5.out.trans (hb.mono hB5.out.size))
    clear hb hB5
    cases hp : plainOk ps
    · go_wp2_with fail
      go_ret
      exact ⟨rfl, hB6.out⟩
    · by_cases hv0 : vars < 0
      · clear hk
        go_wp2_with fail
        go_ret
        exact ⟨rfl, hB6.out⟩
      · by_cases hv1 : 15 < vars
        · clear hk
          go_wp2_with fail
          go_ret
          exact ⟨rfl, hB6.out⟩
        · have htn : (ps.length : Int) < (t : Int) := by
            unfold okS at hk
            rw [hp, show inB vars 0 15 = true from inB_iff.2 ⟨by omega, by omega⟩, Bool.true_and, Bool.true_and] at hk
            by_cases h : (ps.length : Int) < (t : Int)
            · exact h
            · rw [show inB (t : Int) 0 ps.length = true from inB_iff.2 ⟨by omega, by omega⟩] at hk
              cases hk
          clear hk
          go_wp2_with fail
          go_ret
          exact ⟨rfl, hB6.out⟩
  · rw [Bool.and_eq_true] at hk
    have htn : t ≤ ps.length := by have := (inB_iff.1 hk.2).2; omega
    obtain ⟨hY1, hY2, hY3, hY4⟩ := lv_yes hk.1 htn
    have hp := (okS_parts hk.1).1
    have hW := Lib.hid (fun st hs => lv_wts hp t (st := st) hs)
    have hY := Lib.hid hY4
    have hYe := Lib.hid hY3
    rw [hY1]
    clear hY1 hY3 hY4 hk hp n1 n2 cO cOS cL cLS
    generalize needL (ps.drop t) vars = live at hY2 hY hYe ⊢
    generalize hT : val (fun _ => 1) (ps.drop t) 0 40 = T at hY
    clear hT
    have hl0 : ¬ live < 0 := by omega
    have hlb := Lib.hid hY2
    clear hY2
    have hPh := Lib.hid hP5.out
    have hcap := Lib.hid hlcP
    have hcm := Lib.hid hcmP
    obtain ⟨np, hnp⟩ : ∃ np, ps.length = np := ⟨_, rfl⟩
    rw [hnp] at htn hPh hcap hYe ⊢
    have hn20 : np ≤ 20 := by omega
    have hB5h := hB5
    clear hlcP hcmP
    by_cases htc : cP = t
    · have htc' := htc.symm
      clear htc
      subst htc'
      obtain rfl : t = np := by have := hcap.out; omega
      go_wp2_with fail
      go_loopg [7] 4 (fun gn v wr => ∃ i : Nat, i ≤ 4 ∧ gn = 4 - i ∧ v = .int .i64 i ∧ Below w5.heap.size w5 wr)
      case atStart => exact ⟨0, Nat.zero_le _, rfl, rfl, Below.refl _ _⟩
      case round =>
        obtain ⟨i, hi, hgn, rfl, hb⟩ := hrel
        have hgi : gk = 4 - i := hgn
        have hbh := Lib.hid hb
        clear hgn
        by_cases hlt : i < 4
        · have hsh := shr1_tb hlb.out (show i ≤ 3 by omega)
          have hi0 : (0 : Int) ≤ (i : Int) := by omega
          have hi4 : (i : Int) < 4 := by omega
          have hi64 : (i : Int) ≤ 64 := by omega
          cases htb : tb live i
          · rw [htb] at hsh
            have hYv := Lib.hid (fun y hy => hY.out i (by omega) htb y hy)
            have hF0 := Lib.hid (Has.new wr 3 #[.int .i64 0, .int .i64 0, .int .i64 0])
            have hB0 := Lib.hid (hb.alloc hb.size (.cells #[.int .i64 0, .int .i64 0, .int .i64 0] 3))
            have hzF := hb.size
            have hmk := make3
            have cV := Lib.hid (fun (y : Int) wx => WithValue_any 40 (i : Int) y wx)
            clear htb hb
            go_wp2_with fail
            clear hmk
            generalize wr.alloc (.cells #[.int .i64 0, .int .i64 0, .int .i64 0] 3) = W0 at hF0 hB0 ⊢
            generalize wr.heap.size = F at hF0 hzF ⊢
            obtain ⟨go, rfl⟩ : ∃ go : Nat, go = gk := ⟨_, rfl⟩
            go_loopg [9] 3 (fun gn v wr => ∃ k : Nat, k ≤ 3 ∧ gn = 3 - k ∧ v = .int .i64 k ∧ Has wr F 3 (row3 T k) ∧ Below w5.heap.size w5 wr)
            case atStart => exact ⟨0, Nat.zero_le _, rfl, rfl, by simpa [row3] using hF0.out, hB0.out⟩
            case round =>
              obtain ⟨k, hk, hgn, rfl, hF, hb⟩ := hrel
              have hgk : gk = 3 - k := hgn
              clear hgn
              have hFh := Lib.hid hF
              have hb2 := Lib.hid hb
              by_cases hk3 : k < 3
              · have hyv := hYv.out (k : Int) (by omega)
                have hwb : 0 ≤ withValue 40 (i : Int) (k : Int) ∧ withValue 40 (i : Int) (k : Int) ≤ 80 := with_bd (by decide) (by omega) (by omega)
                obtain ⟨_, hW2, hW3⟩ := hW.out (withValue 40 (i : Int) (k : Int)) hwb
                have hwl := weightsFrom_len (ps.drop t) (withValue 40 (i : Int) (k : Int))
                have hP5 := Lib.hid (fun (wx : World) (hx : Below w5.heap.size w5 wx) => (hPh.out.below hx).more hx.size)
                have cWt := Lib.hid (fun A' m c' wx (hx : Lst wx wx.heap.size A' m (ps.drop t)) h1 h2 => WeightsFrom_any A' m c' (ps.drop t) (withValue 40 (i : Int) (k : Int)) wx hx h1 h2)
                have hk0 : (0 : Int) ≤ (k : Int) := by omega
                have hk1 : (k : Int) < 3 := by omega
                have ht0 : (0 : Int) ≤ (t : Int) := by omega
                have ht1 : (t : Int) ≤ (t : Int) := by omega
                clear hF hb hwb
                have hF6 := Lib.hid (fun (w6 : World) (hx : Below wr.heap.size wr w6) => hFh.out.kept hx)
                go_wp2_with fail
                go_region_law (first | (go_simp; go_at_call 26; refine (cV.out _ _).mono ?_; rintro e w' ⟨rfl, rfl⟩) | (go_simp; go_at_call 25; refine (cWt.out _ 0 0 _ (by exact ⟨by rw [List.length_drop, (hP5.out _ hb2.out.drew).1, Nat.sub_self], fun hq => absurd hq (by omega)⟩) (Nat.le_refl 0) (Nat.zero_le _)).mono ?_; rintro e w6 ⟨v6, rfl, hO6, hb6⟩; have hB6 : Below wr.heap.size wr w6 := (by first | exact hb6 | exact ((Below.refl _ _).drew).trans hb6); obtain ⟨A6, c6, hv6, _, _⟩ := hO6.form; subst hv6; have hI6 := hO6.lst; clear hb6 hO6) | (go_simp; go_at_call 24; refine (wcSum_any A6 _ c6 _ _ hI6 (by omega) hW2 hW3).mono ?_; rw [hyv]; rintro e w7 ⟨rfl, hb7⟩; have hB7 : Below wr.heap.size wr w7 := hB6.trans (hb7.mono hB6.size); have hF7 := hF6.out w7 hB7; have f7 := hF7.frozen; obtain ⟨u7, e7⟩ := hF7.size_cell (x := k) (by unfold row3; simp; omega); clear hb7))
                all_goals
                  have hF8 := Lib.hid (show Has (w7.setCell ⟨F, k, none⟩ (.int .i64 T)) F 3 (row3 T (k + 1)) from by rw [← row3_put hk3]; exact hF7.put k _)
                  have hB8 := Lib.hid ((hb2.out.trans (hB7.mono hb2.out.size)).setCell (p := ⟨F, k, none⟩) hzF (.int .i64 T))
                  clear hF7 hB7 f7 e7
                  go_wp2_with fail
                  go_roundg (3 - (k + 1))
                  case measure => omega
                  case rel => exact ⟨k + 1, by omega, rfl, by go_num, hF8.out, hB8.out⟩
              · obtain rfl : k = 3 := by omega
                have hX := hF.cell
                unfold row3 at hX
                have hX0 : wr.cell? ⟨F, 0, none⟩ = some (.int .i64 T) := hX 0
                have hX1 : wr.cell? ⟨F, 1, none⟩ = some (.int .i64 T) := hX 1
                have hX2 : wr.cell? ⟨F, 2, none⟩ = some (.int .i64 T) := hX 2
                have hTT : (T != T) = false := by simp
                clear hF hb hX
                go_wp2_with fail
                go_quiet (fail)
                go_wp2_with fail
                go_roundg (4 - (i + 1))
                case measure => omega
                case rel => exact ⟨i + 1, by omega, rfl, by go_num, below_drewN hb2.out _⟩
          · rw [htb] at hsh
            clear htb hb
            go_wp2_with fail
            go_roundg (4 - (i + 1))
            case measure => omega
            case rel => exact ⟨i + 1, by omega, rfl, by go_num, hbh.out⟩
        · obtain rfl : i = 4 := by omega
          by_cases htl : (t : Int) < (t : Int)
          · clear hb
            go_wp2_with fail
            go_ret
            exact ⟨rfl, hB5h.out.trans (hbh.out.mono hB5h.out.size)⟩
          · have hlv : live = vars := hYe.out (by first | trivial | rfl | omega)
            subst hlv
            have hll : (live == live) = true := by simp
            clear hb
            go_wp2_with fail
            go_ret
            exact ⟨rfl, hB5h.out.trans (hbh.out.mono hB5h.out.size)⟩
    · go_wp2_with fail
      go_loopg [7] 4 (fun gn v wr => ∃ i : Nat, i ≤ 4 ∧ gn = 4 - i ∧ v = .int .i64 i ∧ Below w5.heap.size w5 wr)
      case atStart => exact ⟨0, Nat.zero_le _, rfl, rfl, Below.refl _ _⟩
      case round =>
        obtain ⟨i, hi, hgn, rfl, hb⟩ := hrel
        have hgi : gk = 4 - i := hgn
        have hbh := Lib.hid hb
        clear hgn
        by_cases hlt : i < 4
        · have hsh := shr1_tb hlb.out (show i ≤ 3 by omega)
          have hi0 : (0 : Int) ≤ (i : Int) := by omega
          have hi4 : (i : Int) < 4 := by omega
          have hi64 : (i : Int) ≤ 64 := by omega
          cases htb : tb live i
          · rw [htb] at hsh
            have hYv := Lib.hid (fun y hy => hY.out i (by omega) htb y hy)
            have hF0 := Lib.hid (Has.new wr 3 #[.int .i64 0, .int .i64 0, .int .i64 0])
            have hB0 := Lib.hid (hb.alloc hb.size (.cells #[.int .i64 0, .int .i64 0, .int .i64 0] 3))
            have hzF := hb.size
            have hmk := make3
            have cV := Lib.hid (fun (y : Int) wx => WithValue_any 40 (i : Int) y wx)
            clear htb hb
            go_wp2_with fail
            clear hmk
            generalize wr.alloc (.cells #[.int .i64 0, .int .i64 0, .int .i64 0] 3) = W0 at hF0 hB0 ⊢
            generalize wr.heap.size = F at hF0 hzF ⊢
            obtain ⟨go, rfl⟩ : ∃ go : Nat, go = gk := ⟨_, rfl⟩
            go_loopg [9] 3 (fun gn v wr => ∃ k : Nat, k ≤ 3 ∧ gn = 3 - k ∧ v = .int .i64 k ∧ Has wr F 3 (row3 T k) ∧ Below w5.heap.size w5 wr)
            case atStart => exact ⟨0, Nat.zero_le _, rfl, rfl, by simpa [row3] using hF0.out, hB0.out⟩
            case round =>
              obtain ⟨k, hk, hgn, rfl, hF, hb⟩ := hrel
              have hgk : gk = 3 - k := hgn
              clear hgn
              have hFh := Lib.hid hF
              have hb2 := Lib.hid hb
              by_cases hk3 : k < 3
              · have hyv := hYv.out (k : Int) (by omega)
                have hwb : 0 ≤ withValue 40 (i : Int) (k : Int) ∧ withValue 40 (i : Int) (k : Int) ≤ 80 := with_bd (by decide) (by omega) (by omega)
                obtain ⟨_, hW2, hW3⟩ := hW.out (withValue 40 (i : Int) (k : Int)) hwb
                have hwl := weightsFrom_len (ps.drop t) (withValue 40 (i : Int) (k : Int))
                have hP5 := Lib.hid (fun (wx : World) (hx : Below w5.heap.size w5 wx) => (hPh.out.below hx).more hx.size)
                have cWt := Lib.hid (fun A' c' wx (hx : Lst wx wx.heap.size A' (np - t) (ps.drop t)) h1 h2 => WeightsFrom_any A' (np - t) c' (ps.drop t) (withValue 40 (i : Int) (k : Int)) wx hx h1 h2)
                have hk0 : (0 : Int) ≤ (k : Int) := by omega
                have hk1 : (k : Int) < 3 := by omega
                have ht0 : (0 : Int) ≤ (t : Int) := by omega
                have ht1 : (t : Int) ≤ (np : Int) := by omega
                clear hF hb hwb
                have hcn := hcap.out
                have hcmx := hcm.out
                have hsub : np - t ≤ cP - t := by omega
                have hsub2 : cP - t ≤ maxLen := by omega
                have hF6 := Lib.hid (fun (w6 : World) (hx : Below wr.heap.size wr w6) => hFh.out.kept hx)
                go_wp2_with fail
                go_region_law (first | (go_simp; go_at_call 26; refine (cV.out _ _).mono ?_; rintro e w' ⟨rfl, rfl⟩) | (go_simp; go_at_call 25; refine (cWt.out _ _ _ (by exact lst_from (hP5.out _ hb2.out.drew) htn) hsub hsub2).mono ?_; rintro e w6 ⟨v6, rfl, hO6, hb6⟩; have hB6 : Below wr.heap.size wr w6 := (by first | exact hb6 | exact ((Below.refl _ _).drew).trans hb6); obtain ⟨A6, c6, hv6, _, _⟩ := hO6.form; subst hv6; have hI6 := hO6.lst; clear hb6 hO6) | (go_simp; go_at_call 24; refine (wcSum_any A6 _ c6 _ _ hI6 (by omega) hW2 hW3).mono ?_; rw [hyv]; rintro e w7 ⟨rfl, hb7⟩; have hB7 : Below wr.heap.size wr w7 := hB6.trans (hb7.mono hB6.size); have hF7 := hF6.out w7 hB7; have f7 := hF7.frozen; obtain ⟨u7, e7⟩ := hF7.size_cell (x := k) (by unfold row3; simp; omega); clear hb7))
                all_goals
                  have hF8 := Lib.hid (show Has (w7.setCell ⟨F, k, none⟩ (.int .i64 T)) F 3 (row3 T (k + 1)) from by rw [← row3_put hk3]; exact hF7.put k _)
                  have hB8 := Lib.hid ((hb2.out.trans (hB7.mono hb2.out.size)).setCell (p := ⟨F, k, none⟩) hzF (.int .i64 T))
                  clear hF7 hB7 f7 e7
                  go_wp2_with fail
                  go_roundg (3 - (k + 1))
                  case measure => omega
                  case rel => exact ⟨k + 1, by omega, rfl, by go_num, hF8.out, hB8.out⟩
              · obtain rfl : k = 3 := by omega
                have hX := hF.cell
                unfold row3 at hX
                have hX0 : wr.cell? ⟨F, 0, none⟩ = some (.int .i64 T) := hX 0
                have hX1 : wr.cell? ⟨F, 1, none⟩ = some (.int .i64 T) := hX 1
                have hX2 : wr.cell? ⟨F, 2, none⟩ = some (.int .i64 T) := hX 2
                have hTT : (T != T) = false := by simp
                clear hF hb hX
                go_wp2_with fail
                go_quiet (fail)
                go_wp2_with fail
                go_roundg (4 - (i + 1))
                case measure => omega
                case rel => exact ⟨i + 1, by omega, rfl, by go_num, below_drewN hb2.out _⟩
          · rw [htb] at hsh
            clear htb hb
            go_wp2_with fail
            go_roundg (4 - (i + 1))
            case measure => omega
            case rel => exact ⟨i + 1, by omega, rfl, by go_num, hbh.out⟩
        · obtain rfl : i = 4 := by omega
          by_cases htl : (t : Int) < (np : Int)
          · clear hb
            go_wp2_with fail
            go_ret
            exact ⟨rfl, hB5h.out.trans (hbh.out.mono hB5h.out.size)⟩
          · have hlv : live = vars := hYe.out (by first | trivial | rfl | omega)
            subst hlv
            have hll : (live == live) = true := by simp
            clear hb
            go_wp2_with fail
            go_ret
            exact ⟨rfl, hB5h.out.trans (hbh.out.mono hB5h.out.size)⟩

set_option maxRecDepth 100000 in
theorem lifted (os : Os) (started : os.Started) (H : Type) (enc : TypeId × Value → H) :
    ReturnsInHanded {} Try.checked os 4 .any (Rows.fnLiveAtSpec.pre6 enc Try.prog Try.f4 Rows.fnLiveAtRow.domain false) (Rows.fnLiveAtSpec.post enc Try.prog Try.f4 false true false false) := by
  refine returnsInHanded_of_change (C := Try.checked) own started (by kernel_rfl) Try.func4
    (ChangeSpec.witness6 (enc := enc) (C := Try.checked) false ⟨#[], #[.slice none 0 0], []⟩ 8 (by kernel_rfl) (by kernel_rfl) (by kernel_rfl) (by kernel_rfl)) ?_
  intro W base args ds gs before hval0 hW hcnd _
  have hval : ∀ (j : Nat) t v, Try.f4.params[j]? = some t → args[j]? = some v → Value.okWide Try.prog W .any base t v := hval0
  have hW' := hW
  obtain ⟨p, q, hA0, hV, rfl, hfz, hnd⟩ := hW
  have hA : DataW.TrodAll enc Try.prog W 0 (fun _ => true) true Try.f4.params.toList args.toList ds p := hA0
  rw [Try.params4] at hA hval
  obtain ⟨v0, vs0, d0, ds0, p0, q0, hargs, rfl, rfl, h0, r0⟩ := trodAll_cons hA
  obtain ⟨rfl, rfl, rfl⟩ := trodAll_nil r0
  obtain rfl : args = #[v0] := by cases args; simp_all
  obtain ⟨rfl, rfl⟩ := trodVars_none hV
  have lt0 : ∀ x ∈ p0, x.block < W.heap.size := by
    obtain ⟨m, hm⟩ := h0
    exact DataW.trod_lt m _ _ _ hm
  clear hA0 hval0
  refine (walk enc W base v0 d0 p0 (hval 0 22 v0 rfl rfl) h0 lt0).mono fun e W' ⟨he, bel⟩ => ?_
  subst he
  exact ⟨_, rfl, _, _, _, [], _, [], hW', trodAll_mk1 (shut_bool Try.underlying4 _), (trodAll_cons_mk (Below.trod laidOut (by kernel_rfl) (of_decide_eq_true (by kernel_rfl)) h0 bel lt0) trodAll_mk0), rfl, bel.frame _, fun h => by cases h⟩

theorem proved : Rows.FnLiveAtSaid :=
  OpenClaim.holds_of_wide 4 Try.f4 rfl rfl rfl rfl rfl rfl rfl ⟨rfl, rfl, rfl, rfl, rfl⟩ rfl rfl rfl rfl rfl (by kernel_rfl) Try.func4 (by kernel_rfl)
    (of_decide_eq_true (by kernel_rfl)) (by unfold Func.isWrapper; first | (rw [if_pos (by decide +kernel)]; kernel_rfl) | (rw [if_neg (by decide +kernel)]; exact ⟨rfl, rfl⟩))
    (fun os started H enc _ => lifted os started H enc)
end Go.Proofs.Ytkibkmheomlafaa.fnLiveAt
