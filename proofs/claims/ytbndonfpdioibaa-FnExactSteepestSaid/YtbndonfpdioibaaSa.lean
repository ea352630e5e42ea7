/- The steepest weight: the program's Steepest. -/
import Derived.Test.YtbndonfpdioibaaS9
namespace Go.Proofs.Ytbndonfpdioibaa
set_option maxRecDepth 100000
set_option linter.unusedVariables false
open Go.RowKit

def stA (o : Option (Nat × Nat)) : Int := match o with
  | none => 0
  | some p => (p.1 : Int)
def stV (o : Option (Nat × Nat)) : Int := match o with
  | none => 0
  | some p => (p.2 : Int)
def stM (os : List St) (o : Option (Nat × Nat)) : Int := match o with
  | none => -1
  | some p => stp os p
/-- The best one of all statements ahead of a place, and of the first values of the one there. -/
def bst (os : List St) (k v : Nat) : Option (Nat × Nat) := bestBy (stp os) (cands os k ++ (List.range v).map fun (q : Nat) => (k, q))
theorem bst_start (os : List St) : bst os 0 0 = none := rfl
theorem bst_open (os : List St) (k : Nat) : bst os k 0 = bestBy (stp os) (cands os k) := by
  unfold bst
  simp
theorem bst_next {os : List St} {k : Nat} (hw : wAt os (k : Int) = true) : bst os k 3 = bst os (k + 1) 0 := by
  rw [bst_open, cands_succ, if_pos hw]
  rfl
theorem bst_pass {os : List St} {k : Nat} (hw : wAt os (k : Int) = false) : bst os k 0 = bst os (k + 1) 0 := by
  rw [bst_open, bst_open, cands_succ, if_neg (by rw [hw]; decide), List.append_nil]
theorem stp_nn {os : List St} (hok : ∀ s ∈ os, s.ok = true) (p : Nat × Nat) : 0 ≤ stp os p := isum_nnS (slopes_nonneg hok _ _)
theorem bst_step {os : List St} (hok : ∀ s ∈ os, s.ok = true) {k v : Nat} : bst os k (v + 1) = if stM os (bst os k v) < stp os (k, v) then some (k, v) else bst os k v := by
  have e : cands os k ++ (List.range (v + 1)).map (fun (q : Nat) => (k, q)) = (cands os k ++ (List.range v).map fun (q : Nat) => (k, q)) ++ [(k, v)] := by
    rw [List.range_succ, List.map_append, List.append_assoc]
    rfl
  unfold bst
  rw [e, bestBy_snoc]
  cases bestBy (stp os) (cands os k ++ (List.range v).map fun (q : Nat) => (k, q)) with
  | none =>
    have h9 : stM os none < stp os (k, v) := by
      have := stp_nn hok (k, v)
      show (-1 : Int) < stp os (k, v)
      omega
    rw [if_pos h9]
  | some x => rfl
theorem bst_last (os : List St) (k : Nat) : bst os os.length 0 = bestBy (stp os) (cands os os.length) := bst_open os _
theorem steep_some {ps os : List St} (hu : unrolled ps = some os) : steepOf ps = bst os os.length 0 := by
  unfold steepOf
  rw [hu, bst_open]
  rfl
theorem steep_none {ps : List St} (hu : unrolled ps = none) : steepOf ps = none := by
  unfold steepOf
  rw [hu]
  rfl
theorem stM_bd {os : List St} (hok : ∀ s ∈ os, s.ok = true) (o : Option (Nat × Nat)) : decide (0 ≤ stM os o) = o.isSome := by
  cases o with
  | none => rfl
  | some p => exact decide_eq_true (stp_nn hok p)
def Std (w : World) (o : Option (Nat × Nat)) (e : Ending) (w' : World) : Prop := e = .returned (.tuple #[.int .i64 (stA o), .int .i64 (stV o), .bool o.isSome]) ∧ Below w.heap.size w w'
set_option maxHeartbeats 4000000 in
theorem Steepest_go (A : Option Addr) (n c : Nat) (ps : List St) (os : List St) (b : Bool) (w : World) (hC : Calls Try.prog 41 #[.slice A n c] w fun e w' => ∃ v, e = .returned (.tuple #[v, .bool b]) ∧ Own w' w.heap.size v os ∧ Below w.heap.size w w')
    (hlen : os.length ≤ 12) (hok : ∀ s ∈ os, s.ok = true ∧ s.notLoop = true) (hr : steepOf ps = bst os os.length 0) :
    Calls Try.prog 31 #[.slice A n c] w (Std w (steepOf ps)) := by
  have hCc := Lib.hid hC
  have hOk := Lib.hid hok
  have hR := Lib.hid hr
  clear hC hok hr
  go_enter Try.func31, Try.ntmps31
  go_wp2_with fail
  refine (hCc.out).mono ?_
  rintro e w1 ⟨v, rfl, hown, hb⟩
  obtain ⟨A3, c3, hv, _, _⟩ := hown.form
  subst hv
  obtain ⟨m, hm⟩ : ∃ m, os.length = m := ⟨_, rfl⟩
  have hM := Lib.hid hm
  have hO1 := Lib.hid (show w1.ownsRow w.heap.size 78 7 (.slice A3 m c3) m (flat os) from by
    have h9 := hown
    unfold Own at h9
    rwa [hm] at h9)
  have hB1 := Lib.hid hb
  rw [hm] at hlen ⊢
  clear hown hb hm
  go_wp2_with fail
  refine (totalSlopes_any A3 m c3 os w.heap.size _ hO1.out hB1.out.size hlen hM.out hOk.out).mono ?_
  rintro e w3 ⟨cs3, rfl, hS3, hT3, hb3⟩
  have hO3 := Lib.hid (owns_but hO1.out (KeptBut.of_below hb3 (fun _ => False)) (fun _ _ h => h))
  have hB3 := Lib.hid (hB1.out.trans (hb3.mono hB1.out.size))
  have hS := Lib.hid hS3
  have hT := Lib.hid hT3
  have hm9 : m ≤ 9223372036854775807 := by omega
  generalize w1.heap.size = gS at hS hS3 ⊢
  clear hS3 hT3 hb3 hO1 hB1
  go_wp2_with fail
  go_loopg [8, 9, 10, 24] m (fun gn x8 x9 x10 v wr => ∃ k : Nat, k ≤ m ∧ gn = m - k ∧ x8 = .int .i64 (stA (bst os k 0)) ∧ x9 = .int .i64 (stV (bst os k 0)) ∧ x10 = .int .i64 (stM os (bst os k 0)) ∧ v = .int .i64 k ∧ Below w3.heap.size w3 wr)
  case atStart => exact ⟨0, Nat.zero_le _, rfl, rfl, rfl, rfl, rfl, Below.refl _ _⟩
  case round =>
    obtain ⟨k, hk, hgn, rfl, rfl, rfl, rfl, hb⟩ := hrel
    have hgk : gk = m - k := hgn
    clear hgn
    by_cases hlt : k < m
    · obtain ⟨s, hs⟩ : ∃ s, os[k]? = some s := ⟨_, List.getElem?_eq_getElem (by rw [hM.out]; exact hlt)⟩
      obtain ⟨hso, hsl⟩ := hOk.out s (List.mem_of_getElem? hs)
      have hwa : wAt os (k : Int) = s.hasW := by
        unfold wAt
        rw [Int.toNat_natCast, hs, inB_iff.2 (by rw [hM.out]; omega)]
        rfl
      obtain ⟨gs, off, s', rfl, hgs, hs', hat⟩ := ((ownS_lst hO3.out).below hb).at_ hlt
      obtain rfl : s' = s := Option.some.inj (hs'.symm.trans hs)
      obtain ⟨c0, c1, c2, c3', c4, c5, c6⟩ := hat.open_
      have cH := Lib.hid (show ∀ wx, Calls Try.prog 82 #[.agg #[.int .i64 s'.k, .int .i64 s'.a, .int .i64 s'.b, .int .i64 s'.c, .int .i64 s'.u, .int .i64 s'.v, .int .i64 s'.x]] wx fun e w' => e = .returned (.bool s'.hasW) ∧ Below wx.heap.size wx w' from fun wx => hasWeights_any s' wx hso)
      have hS1 := Lib.hid hs
      have hk0 : (0 : Int) ≤ (k : Int) := by omega
      have hk1 : (k : Int) < (m : Int) := by omega
      have hBa := Lib.hid (hb.alloc hb.size (.cells #[.int .i64 s'.k, .int .i64 s'.a, .int .i64 s'.b, .int .i64 s'.c, .int .i64 s'.u, .int .i64 s'.v, .int .i64 s'.x] 78))
      have hXa := Lib.hid (Has.new wr 78 #[.int .i64 s'.k, .int .i64 s'.a, .int .i64 s'.b, .int .i64 s'.c, .int .i64 s'.u, .int .i64 s'.v, .int .i64 s'.x])
      clear hs hs' hat hgs hb hso
      cases hw : s'.hasW
      · rw [hw] at cH hwa
        have hP := Lib.hid (bst_pass hwa)
        clear hw hwa
        go_wp2_with fail
        clear c0 c1 c2 c3' c4 c5 c6
        have hxc := hXa.out.cell
        go_wp2_with fail
        refine (cH.out _).mono ?_
        rintro e w4 ⟨rfl, hb4⟩
        have hB4 := Lib.hid (hBa.out.trans (hb4.mono hBa.out.size))
        clear hb4 hxc
        go_wp2_with fail
        go_roundg (m - (k + 1))
        case measure => omega
        case rel => exact ⟨k + 1, by omega, rfl, by rw [hP.out], by rw [hP.out], by rw [hP.out], by go_num, hB4.out⟩
      · rw [hw] at cH hwa
        have hP := Lib.hid (bst_next hwa)
        have ht3 := Lib.hid (fun q => tsl_eq (q := q) hS1.out hw (fun s hs => (hOk.out s hs).1))
        clear hw hwa
        go_wp2_with fail
        clear c0 c1 c2 c3' c4 c5 c6
        have hxc := hXa.out.cell
        go_wp2_with fail
        refine (cH.out _).mono ?_
        rintro e w4 ⟨rfl, hb4⟩
        have hB4 := Lib.hid (hBa.out.trans (hb4.mono hBa.out.size))
        have hS4 := hS.out.kept hB4.out
        have t0 := (hS4.cell (k * 3)).trans (hT.out.2 k 0 hlt (by decide))
        have t1 := (hS4.cell (k * 3 + 1)).trans (hT.out.2 k 1 hlt (by decide))
        have t2 := (hS4.cell (k * 3 + 2)).trans (hT.out.2 k 2 hlt (by decide))
        rw [if_pos (Nat.zero_le _)] at t0 t1 t2
        have hU1 := Lib.hid (show ∀ z : Nat, z < 3 → (#[.int .i64 (tsl os k 0), .int .i64 (tsl os k 1), .int .i64 (tsl os k 2)] : Array Value)[z]? = some (.int .i64 (stp os (k, z))) from fun z hz => by
          have e : stp os (k, z) = tsl os k z := (ht3.out z).symm
          rw [e]
          obtain rfl | rfl | rfl : z = 0 ∨ z = 1 ∨ z = 2 := by omega
          all_goals rfl)
        clear hb4 hxc hS4
        go_wp2_with fail
        clear t0 t1 t2
        generalize (#[.int .i64 (tsl os k 0), .int .i64 (tsl os k 1), .int .i64 (tsl os k 2)] : Array Value) = sn at hU1 ⊢
        obtain ⟨go, rfl⟩ : ∃ go : Nat, go = gk := ⟨_, rfl⟩
        obtain ⟨wo, rfl⟩ : ∃ wo : World, wo = wr := ⟨_, rfl⟩
        go_loopg [8, 9, 10, 36] 3 (fun gn x8 x9 x10 v wr => ∃ q : Nat, q ≤ 3 ∧ gn = 3 - q ∧ x8 = .int .i64 (stA (bst os k q)) ∧ x9 = .int .i64 (stV (bst os k q)) ∧ x10 = .int .i64 (stM os (bst os k q)) ∧ v = .int .i64 q ∧ Below w3.heap.size w3 wr)
        case atStart => exact ⟨0, by decide, rfl, rfl, rfl, rfl, rfl, hB4.out⟩
        case round =>
          obtain ⟨q, hq, hgn, rfl, rfl, rfl, rfl, hb⟩ := hrel
          have hgk2 : gk = 3 - q := hgn
          have hBq := Lib.hid hb
          clear hgn hb
          by_cases hq3 : q < 3
          · have hq0 : (0 : Int) ≤ (q : Int) := by omega
            have hq1 : (q : Int) < 3 := by omega
            have hix := fun wx => index_three (hU1.out q hq3) hq3 wx
            have hstep := bst_step (os := os) (k := k) (v := q) (fun s hs => (hOk.out s hs).1)
            by_cases hgt : stM os (bst os k q) < stp os (k, q)
            · rw [if_pos hgt] at hstep
              have hSt := Lib.hid hstep
              have hy := Lib.hid (show stM os (some (k, q)) = stp os (k, q) from rfl)
              clear hstep
              generalize stM os (bst os k q) = x at hgt ⊢
              generalize stp os (k, q) = y at hgt hix hy
              generalize stA (bst os k q) = xa
              generalize stV (bst os k q) = xv
              go_wp2_with fail
              go_roundg (3 - (q + 1))
              case measure => omega
              case rel => exact ⟨q + 1, by omega, rfl, by rw [hSt.out]; rfl, by rw [hSt.out]; rfl, by rw [hSt.out, hy.out], by go_num, hBq.out⟩
            · rw [if_neg hgt] at hstep
              have hSt := Lib.hid hstep
              clear hstep
              generalize hx9 : stM os (bst os k q) = x at hgt ⊢
              have hX9 := Lib.hid hx9
              clear hx9
              generalize stp os (k, q) = y at hgt hix
              go_wp2_with fail
              go_roundg (3 - (q + 1))
              case measure => omega
              case rel => exact ⟨q + 1, by omega, rfl, by rw [hSt.out], by rw [hSt.out], by rw [hSt.out, hX9.out], by go_num, hBq.out⟩
          · obtain rfl : q = 3 := by omega
            go_wp2_with fail
            go_roundg (m - (k + 1))
            case measure => omega
            case rel => exact ⟨k + 1, by omega, rfl, by rw [hP.out], by rw [hP.out], by rw [hP.out], by go_num, hBq.out⟩
    · obtain rfl : k = m := by omega
      have hFin := Lib.hid (show steepOf ps = bst os k 0 from by rw [hR.out, hM.out])
      have hs := Lib.hid (stM_bd (fun s hs => (hOk.out s hs).1) (bst os k 0))
      have hBq := Lib.hid (hB3.out.trans (hb.mono hB3.out.size))
      clear hb
      go_wp2_with fail
      go_ret3
      refine ⟨?_, hBq.out⟩
      rw [hFin.out, ← hs.out]
      rfl
theorem Steepest_any (A : Option Addr) (n c : Nat) (ps : List St) (w : World) (h : Lst w w.heap.size A n ps) (hn : n ≤ c) (hc : c ≤ maxLen) :
    Calls Try.prog 31 #[.slice A n c] w (Std w (steepOf ps)) := by
  have hC := Unrolled_any A n c ps w h hn hc
  cases hu : unrolled ps with
  | none =>
    rw [hu] at hC
    exact Steepest_go A n c ps [] false w hC (by decide) (fun s hs => by simp at hs) (steep_none hu)
  | some os =>
    rw [hu] at hC
    obtain ⟨_, hlen, _, hNL, hOK⟩ := unrolled_parts hu
    exact Steepest_go A n c ps os true w hC hlen (fun s hs => ⟨List.all_eq_true.1 hOK s hs, hNL s hs⟩) (steep_some hu)
end Go.Proofs.Ytbndonfpdioibaa
