/- Slopes of all statements, how they begin: the program's allOnes and ledEverywhere; what is worth everywhere. -/
import Derived.Test.YtbndonfpdioibaaS5
namespace Go.Proofs.Ytbndonfpdioibaa
set_option maxRecDepth 100000
set_option linter.unusedVariables false
open Go.RowKit

set_option maxHeartbeats 1000000 in
theorem allOnes_any (w : World) : Calls Try.prog 130 #[] w fun e w' => e = .returned (.slice (some ⟨w.heap.size, 0, none⟩) 81 81) ∧ (∃ cs, Has w' w.heap.size 3 cs ∧ RowA cs (fun _ => 1)) ∧ Below w.heap.size w w' := by
  obtain ⟨i0, hi0, hz0, hz1', hz2'⟩ := info_parts info_int
  have hmk : ∀ wx : World, (Instr.makeSlice 24 (.int .i64 81) (.int .i64 81)).run Try.prog wx = .ok (.slice (some ⟨wx.heap.size, 0, none⟩) 81 81) (wx.alloc (.cells (madeCells (Value.int .i64 0).cells (81 * 1)) 3)) := by
    intro wx
    have hr := run_make (P := Try.prog) wx 24 3 i0 _ Try.underlying24 hi0 hz0 .i64 .i64 81 81 (by omega) (by omega) (by rw [hz2']; omega) (by omega)
    rw [hz1'] at hr
    exact hr
  have hHas := Lib.hid (Has.new w 3 (madeCells #[.int .i64 0] 81))
  have hfill := Lib.hid (show RowA (madeCells #[.int .i64 0] 81) (fun st => if st < 0 then 1 else 0) from ⟨size_madeCells _ _, fun q hq => by
    dsimp only
    rw [made_at hq (by decide), if_neg (by omega)]
    simp [Nat.mod_one]⟩)
  have hB0 : Below w.heap.size w (w.alloc (.cells (madeCells #[.int .i64 0] 81) 3)) := (Below.refl _ _).alloc (Nat.le_refl _) _
  go_enter Try.func130, Try.ntmps130
  go_wp2_with fail
  clear hmk
  generalize hGG : w.heap.size = G at hHas hB0 ⊢
  have hGg := Lib.hid hGG
  clear hGG
  generalize madeCells #[.int .i64 0] 81 = cs0 at hHas hfill hB0 ⊢
  generalize w.alloc (.cells cs0 3) = W0 at hHas hB0 ⊢
  go_loopg [6] 81 (fun gn u wr => ∃ (q : Nat) (cs : Array Value), q ≤ 81 ∧ gn = 81 - q ∧ u = .int .i64 q ∧ Has wr G 3 cs ∧ RowA cs (fun st => if st < (q : Int) then 1 else 0) ∧ Below G w wr)
  case atStart => exact ⟨0, cs0, by omega, rfl, rfl, hHas.out, hfill.out, hB0⟩
  case round =>
    obtain ⟨q, cs, hq, hgn, rfl, hC, hA, hB⟩ := hrel
    have hgk : gk = 81 - q := hgn
    clear hgn
    by_cases hlt : q < 81
    · have hq0 : (0 : Int) ≤ (q : Int) := by omega
      have hq1 : (q : Int) < 81 := by omega
      have cq := (hC.cell q).trans (hA.2 q hlt)
      have fq := hC.frozen q
      have hC2 := Lib.hid (hC.put q (.int .i64 1))
      have hA2 := Lib.hid (show RowA (cs.setIfInBounds q (.int .i64 1)) (fun st => if st < ((q + 1 : Nat) : Int) then 1 else 0) from ⟨by simpa using hA.1, fun z hz => by
        dsimp only
        rw [Array.getElem?_setIfInBounds]
        by_cases hzq : q = z
        · subst hzq
          rw [if_pos rfl, if_pos (by rw [hA.1]; exact hlt), if_pos (by omega)]
        · rw [if_neg hzq, hA.2 z hz]
          dsimp only
          by_cases h1 : (z : Int) < (q : Int)
          · rw [if_pos h1, if_pos (by omega)]
          · rw [if_neg h1, if_neg (by omega)]⟩)
      have hB2 := Lib.hid (hB.setCell (p := ⟨G, q, none⟩) (Nat.le_refl _) (.int .i64 1))
      clear hC hA hB
      go_wp2_with fail
      go_roundg (81 - (q + 1))
      case measure => omega
      case rel => exact ⟨q + 1, _, by omega, rfl, by go_num, hC2.out, hA2.out, hB2.out⟩
    · obtain rfl : q = 81 := by omega
      have hF := Lib.hid (And.intro hC (And.intro (hA.congr (g' := fun _ => 1) (fun st hst => if_pos (by omega))) hB))
      clear hC hA hB
      go_wp2_with fail
      go_ret
      obtain rfl := hGg.out
      exact ⟨rfl, ⟨cs, hF.out.1, hF.out.2.1⟩, hF.out.2.2⟩

/-- The first k rows have all states. -/
def LedK (cs : Array Value) (m k : Nat) : Prop := cs.size = (m + 1) * 81 ∧ ∀ i q : Nat, i < k → q < 81 → cs[i * 81 + q]? = some (.bool true)
set_option maxHeartbeats 2000000 in
theorem ledEverywhere_any (A : Option Addr) (m c : Nat) (w : World) (hm : m ≤ 12) :
    Calls Try.prog 131 #[.slice A m c] w fun e w' => e = .returned (.slice (some ⟨w.heap.size, 0, none⟩) (m + 1) (m + 1)) ∧ (∃ cs, Has w' w.heap.size 183 cs ∧ LedA cs m (fun _ _ => true)) ∧ Below w.heap.size w w' := by
  obtain ⟨i0, hi0, hz0, hz1', hz2'⟩ := info_parts info_set3
  have hzc : (List.toArray (List.replicate 81 (Value.bool false))).size = 81 := by simp
  have hsz : (Try.prog.info? 183).map (·.size) = some 81 := by rw [hi0]; simp [hz1']
  generalize List.toArray (List.replicate 81 (Value.bool false)) = zc at hz0 hzc
  have hmk : ∀ wx : World, (Instr.makeSlice 144 (.int .i64 ((m : Int) + 1)) (.int .i64 ((m : Int) + 1))).run Try.prog wx = .ok (.slice (some ⟨wx.heap.size, 0, none⟩) (m + 1) (m + 1)) (wx.alloc (.cells (madeCells zc ((m + 1) * 81)) 183)) := by
    intro wx
    have hr := run_make (P := Try.prog) wx 144 183 i0 _ Try.underlying144 hi0 hz0 .i64 .i64 ((m : Int) + 1) ((m : Int) + 1) (by omega) (by omega) (by rw [hz2']; omega) (by omega)
    rw [hz1'] at hr
    rw [show ((m : Int) + 1).toNat = m + 1 by omega] at hr
    exact hr
  have hL0 := Lib.hid (show LedK (madeCells zc ((m + 1) * 81)) m 0 from ⟨size_madeCells _ _, fun i q hi => by omega⟩)
  generalize madeCells zc ((m + 1) * 81) = cs0 at hmk hL0
  have hw1 : IntKind.i64.wrap ((m : Int) + 1) = (m : Int) + 1 := IntWalk.i64_in _ (by omega)
  have hSz := Lib.hid hsz
  have hHas := Lib.hid (Has.new w 183 cs0)
  have hB0 : Below w.heap.size w (w.alloc (.cells cs0 183)) := (Below.refl _ _).alloc (Nat.le_refl _) _
  clear hsz hi0 hz0 hz1' hz2' hzc
  clear zc
  go_enter Try.func131, Try.ntmps131
  go_wp2_with fail
  clear hmk
  generalize hGG : w.heap.size = G at hHas hB0 ⊢
  have hGg := Lib.hid hGG
  clear hGG
  generalize w.alloc (.cells cs0 183) = W0 at hHas hB0 ⊢
  go_loopg [11] (m + 1) (fun gn u wr => ∃ (k : Nat) (cs : Array Value), k ≤ m + 1 ∧ gn = m + 1 - k ∧ u = .int .i64 k ∧ Has wr G 183 cs ∧ LedK cs m k ∧ Below G w wr)
  case atStart => exact ⟨0, cs0, by omega, rfl, rfl, hHas.out, hL0.out, hB0⟩
  case round =>
    obtain ⟨k, cs, hk, hgn, rfl, hC, hL, hB⟩ := hrel
    have hgk : gk = m + 1 - k := hgn
    clear hgn
    by_cases hlt : k < m + 1
    · have hk0 : (0 : Int) ≤ (k : Int) := by omega
      have hk1 : (k : Int) < (m : Int) + 1 := by omega
      have hC' := Lib.hid hC
      have hL' := Lib.hid hL
      have hB' := Lib.hid hB
      clear hC hL hB
      go_wp2_with (first
        | (go_at_call 165; refine (allStates_any _).mono ?_; rintro e w3 ⟨fa, rfl, hfa, hb3⟩; have hC3 := hC'.out.kept hb3; have hT := Lib.hid (has_there (o := k * 81) (n := fa.size) hC3 (by rw [hL'.out.1, hfa.1]; omega)); have hZ := Lib.hid (show (Try.prog.info? 183).map (·.size) = some fa.size from by rw [hSz.out, hfa.1]); have hFo := Lib.hid hfa.one)
        | (refine wpList_store_mid rfl 183 (.tmp 17) (.tmp 16) rfl G (k * 81) fa (by rfl) (by rfl) hT.out hZ.out hFo.out ?_))
      obtain ⟨cs2, hC4, hz4, hin4, hout4⟩ := has_setCells fa.toList (k * 81) w3 cs hC3 (by rw [hL'.out.1, Array.length_toList, hfa.1]; omega)
      have hC5 := Lib.hid hC4
      have hL5 := Lib.hid (show LedK cs2 m (k + 1) from ⟨by rw [hz4]; exact hL'.out.1, fun i q hi hq => by
        by_cases hik : i = k
        · subst hik
          refine hin4 q _ ?_
          rw [Array.getElem?_toList]
          exact hfa.2 q hq
        · rw [hout4 _ (.inl (by omega))]
          exact hL'.out.2 i q (by omega) hq⟩)
      have hB5 := Lib.hid (below_setCells (Nat.le_refl G) fa.toList (k * 81) w3 (hB'.out.trans (hb3.mono (by have h8 := hB'.out.size; have h9 := hGg.out; omega))))
      clear hC3 hT hZ hFo hC4 hz4 hin4 hout4 hb3
      go_wp2_with fail
      go_roundg (m + 1 - (k + 1))
      case measure => omega
      case rel => exact ⟨k + 1, cs2, by omega, rfl, by go_num, hC5.out, hL5.out, hB5.out⟩
    · obtain rfl : k = m + 1 := by omega
      have hF := Lib.hid (And.intro hC (And.intro (show LedA cs m (fun _ _ => true) from ⟨hL.1, fun i q hi hq => hL.2 i q (by omega) hq⟩) hB))
      clear hC hL hB
      go_wp2_with fail
      go_ret
      obtain rfl := hGg.out
      exact ⟨rfl, ⟨cs, hF.out.1, hF.out.2.1⟩, hF.out.2.2⟩

/-- All states, everywhere. -/
def led1 : Nat → Int → Bool := fun _ _ => true
theorem Rw1 {os : List St} {k : Nat} (h1 : Int → Int) (st : Int) : Rw h1 os led1 k st = valAt h1 os k st := by
  unfold Rw led1
  split
  · rename_i h
    rw [valAt_end h]
  · rw [if_pos rfl]
theorem cl1 (os : List St) (i : Nat) : Cl os led1 i := fun _ _ _ _ _ _ _ _ => rfl
def one1 : Int → Int := fun _ => 1
theorem Rw1_bd {os : List St} {m : Nat} (hm : m ≤ 12) (hM : os.length = m) (hok : ∀ s ∈ os, s.ok = true) {j : Nat} {st : Int} (hs : 0 ≤ st ∧ st ≤ 80) (hj : 0 < j) : 0 ≤ Rw one1 os led1 j st ∧ Rw one1 os led1 j st ≤ 100000000000000000 := by
  rw [Rw1]
  have h1 := valAt_bd (h := one1) (H := 1) (os := os) (i := j) (fun _ _ _ => by unfold one1; omega) (by decide) hok hs
  have h2 := V2_mono (m := 12) (i := 1) (j := 12 - (os.length - j)) (by omega) 0 0
  unfold V2 at h2
  rw [show 12 - (12 - (os.length - j)) = os.length - j by omega] at h2
  have e : (27 : Int) ^ (12 - 1) = 5559060566555523 := by decide
  rw [e] at h2
  omega
/-- What the walk tells of slopes is what they are. -/
theorem uSum_gro {os : List St} {a : Nat} {s : St} (hs : os[a]? = some s) (c st : Int) : uSum (Rw one1 os led1 (a + 1)) s c st s.many = groAt c one1 os a a st := by
  have key : ∀ x, uAt (Rw one1 os led1 (a + 1)) s c x = useV c one1 s (os.drop (a + 1)) x := fun x => by
    unfold uAt useV
    rw [Rw1]
    rfl
  have u0 : s.next st ((0 : Nat) : Int) = s.next st 0 := rfl
  have u1 : s.next st ((1 : Nat) : Int) = s.next st 1 := rfl
  have u2 : s.next st ((2 : Nat) : Int) = s.next st 2 := rfl
  rw [groAt_here hs]
  unfold St.many
  cases s.draws
  · simp only [Bool.false_eq_true, if_false, uSum, key, u0, Int.zero_add]
  · simp only [if_true, uSum, key, u0, u1, u2, Int.zero_add]
theorem slB_gro {os : List St} {a : Nat} {s : St} {F : Nat → Fr} (hs : os[a]? = some s) (hw : s.hasW = true) (hx : Gse os one1 F) {c : Int} (hc : 0 ≤ c ∧ c ≤ 2) : slB (Rw one1 os led1 (a + 1)) s (F a) c = gro c one1 os 0 a 0 := by
  rw [← hx a s c hs hw hc]
  unfold slB
  exact sumV_congr fun p _ => uSum_gro hs c p.1
theorem gro_top {os : List St} {m : Nat} (hm : m ≤ 12) (hM : os.length = m) (hok : ∀ s ∈ os, s.ok = true ∧ s.notLoop = true) {a : Nat} {s : St} (hs : os[a]? = some s) (hw : s.hasW = true) {c : Int} (hc : 0 ≤ c ∧ c ≤ 2) : 0 ≤ gro c one1 os 0 a 0 ∧ gro c one1 os 0 a 0 ≤ 150094635296999121 := by
  have hok' := fun s hs => (hok s hs).1
  refine ⟨gro_bd (fun _ _ _ => by unfold one1; decide) _ _ _ _ hok' (by decide), ?_⟩
  obtain ⟨hto, htl⟩ := hok s (List.mem_of_getElem? hs)
  have hl := (List.getElem?_eq_some_iff.1 hs).1
  have hall : ∀ y, 1 ≤ y ∧ y ≤ 9 → ∀ t ∈ os.set a (s.wset c y), t.ok = true := fun y hy t ht => by
    rcases List.mem_or_eq_of_mem_set ht with h1 | rfl
    · exact hok' t h1
    · exact wset_ok hto hw hc hy
  have h1 := val_more hc one1 (os := os.set a (s.wset c 1)) (hall 1 (by decide)) 0 a (t := s.wset c 1) (by rw [List.getElem?_set_self hl]) hw (st := 0) (by decide)
  rw [List.set_set, wset_more hc, gro_wset c one1 c 1 os 0 a hs] at h1
  have h2 := val_bd one1 1 (fun _ _ _ => by unfold one1; omega) (by decide) (os.set a (s.wset c (1 + 1))) 0 0 (hall _ (by decide)) (by decide)
  have h3 := val_bd one1 1 (fun _ _ _ => by unfold one1; omega) (by decide) (os.set a (s.wset c 1)) 0 0 (hall _ (by decide)) (by decide)
  rw [List.length_set, hM] at h2
  have h4 := V2_top hm 0
  unfold V2 at h4
  rw [Nat.sub_zero] at h4
  omega
/-- The slopes of all statements' weights, noughts where there are none. -/
def tsl (os : List St) (i : Nat) (c : Nat) : Int := match os[i]? with
  | none => 0
  | some s => if s.hasW = true then gro (c : Int) one1 os 0 i 0 else 0
end Go.Proofs.Ytbndonfpdioibaa
