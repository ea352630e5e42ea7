/- Parts of the proof: E3, Ab, Mdd, Mdf, Ad, Vp. -/
import Derived.Test.YtkggejmamhakaaaZAM
import Derived.Test.YtkggejmamhakaaaZBU
import Derived.Test.YtkggejmamhakaaaZAS
import Derived.Test.YtkggejmamhakaaaZBX
import Derived.Test.YtkggejmamhakaaaZAP
import Derived.Test.YtkggejmamhakaaaZAH
import Derived.Deep.AppendLies
import Derived.Test.YtkggejmamhakaaaZAK
namespace Go.Proofs.Ytkggejmamhakaaa
set_option maxRecDepth 100000
set_option linter.unusedVariables false
open Go.RowKit
theorem Rdr.kept {w w' : World} {B R : Nat} {A : Option Addr} {n c p : Nat} (h : Rdr w B R A n c p) (hb : Below w.heap.size w w') (hB : B ≤ w.heap.size) : Rdr w' B R A n c p :=
  ⟨h.1.kept hb, h.2.1, h.2.2.keep (hb.mono hB)⟩
theorem RowsV.chg {w w' : World} {base R : Nat} {v : Value} {rs : List (List Int)} {vs : List Value} (h : RowsV w base v rs vs) (hc : Chg w w' R) (hR : R < base) : RowsV w' base v rs vs :=
  h.but (KeptBut.of_grown (S := fun i => i = R) hc (fun k e => by injection e with e; exact e.symm)) (fun k hk e => by have := (World.ownsRow.lt h.1 k hk).1; omega) (fun k cur _ hk _ e => by omega)
theorem ch_two {ps : List St} {ds : List Int} (h : ds ∈ chRows ps) : ∃ x y : Int, ds = [x, y] := by
  have h1 : ∀ c k, ∀ ds ∈ rowsAt ps c k, ∃ x y : Int, ds = [x, y] := fun c k ds hd => by
    unfold rowsAt at hd
    obtain ⟨i, _, rfl⟩ := List.mem_map.1 hd
    exact ⟨_, _, rfl⟩
  have h2 : ∀ c, ∀ ds ∈ rowsTo ps c, ∃ x y : Int, ds = [x, y] := fun c => by
    induction c with
    | zero => intro ds hd; simp [rowsTo] at hd
    | succ c ih =>
      intro ds hd
      rw [rowsTo] at hd
      rcases List.mem_append.1 hd with hd | hd
      · exact ih ds hd
      · exact h1 _ _ ds hd
  unfold chRows at h
  split at h
  · exact h2 5 ds h
  · simp at h
theorem ch_len {ps : List St} (h : ps.length ≤ 20) : (chRows ps).length ≤ 100 := by
  unfold chRows
  split
  · have := rowsTo_len ps 5
    omega
  · simp
def Csd (w : World) (e : Ending) (w' : World) : Prop := ∃ (v : Value) (os : List St) (x y : Int), e = .returned (.tuple #[v, .int .i64 x, .int .i64 y]) ∧ Own w' w.heap.size v os ∧ os.length ≤ 20 ∧ Below w.heap.size w w'
set_option maxHeartbeats 4000000 in
theorem l6Case_any (A : Option Addr) (n c : Nat) (w : World) (h : Byt w w.heap.size A n) (hn : n ≤ c) (hc : c ≤ maxLen) :
    Calls Try.prog 55 #[.slice A n c] w (Csd w) := by
  have hO := Lib.hid (l40Open_any A n c _ h hn hc)
  clear h hc
  go_enter Try.func55, Try.ntmps55
  go_wp2_with fail
  refine (hO.out).mono ?_
  rintro e w1 ⟨rfl, ⟨n', hn', hr1⟩, hb1⟩
  have hz := hr1.lt
  generalize hGR : w.heap.size = G at hr1 hb1 hz ⊢
  clear hO
  go_wp2_with fail
  refine (l6Draw_any G A n' c 0 G w1 hr1 (by omega) hn' (by omega)).mono ?_
  rintro e w2 ⟨v2, os, p2, rfl, hO2, hl2, hp2, hr2, hc2⟩
  obtain ⟨A2, c2, hv2, hlc, hlm⟩ := hO2.form
  subst hv2
  have hz2 := hc2.size
  have hB2 := Lib.hid (show Below G w w2 from hb1.trans (hc2.below (B := G) (Nat.le_refl _) (by omega)))
  have cC := Lib.hid (specChangesOf_any A2 os.length c2 os w2 hO2.lst hlc hlm (by omega))
  have hR2 := Lib.hid hr2
  have hOw2 := Lib.hid hO2
  clear hr2 hc2 hr1 hb1 hO2
  go_wp2_with fail
  refine cC.out.mono ?_
  rintro e w3 ⟨v3, vs, rfl, hRv, hb3⟩
  obtain ⟨A3, c3, hv3, hlc3, hlm3⟩ := hRv.form
  subst hv3
  have hz3 := hb3.size
  have hR3 := Lib.hid (hR2.out.kept hb3 (by omega))
  have hO3 := Lib.hid (hOw2.out.below hb3)
  have hB3 := Lib.hid (hB2.out.trans (hb3.mono (by omega)))
  have hrl : (chRows os).length ≤ 100 := ch_len hl2
  have hrw := Lib.hid (fun ds (hd : ds ∈ chRows os) => ch_two hd)
  generalize chRows os = rs at hRv hlc3 hrl hrw ⊢
  obtain ⟨N, hN⟩ : ∃ N, rs.length = N := ⟨_, rfl⟩
  have hRv3 := Lib.hid hRv
  rw [hN] at hRv3 hlc3 hrl ⊢
  have hNh := Lib.hid hN
  clear hRv hb3 cC hR2 hOw2 hB2 hN
  by_cases hN0 : 0 < N
  · have hN0' : (0 : Int) < (N : Int) := by omega
    go_wp2_with fail
    refine (pick_any G A n' c _ G _ _ hR3.out (by omega) hn' (by omega)).mono ?_
    rintro e w4 ⟨x4, rfl, x40, x41, hr4, hc4⟩
    have hz4 := hc4.size
    have hR4 := Lib.hid hr4
    have hO4 := Lib.hid (hO3.out.chg hc4 (by omega))
    have hV4 := Lib.hid (hRv3.out.chg hc4 (by omega))
    have hB4 := Lib.hid (hB3.out.trans (hc4.below (B := G) (Nat.le_refl _) (by omega)))
    clear hr4 hc4 hR3 hO3 hRv3 hB3
    by_cases hx4 : 0 < x4
    · go_wp2_with fail
      refine (pick_any G A n' c _ G _ _ hR4.out (by omega) hn' (by omega)).mono ?_
      rintro e w5 ⟨x5, rfl, x50, x51, hr5, hc5⟩
      have hz5 := hc5.size
      have hO5 := Lib.hid (hO4.out.chg hc5 (by omega))
      have hV5 := Lib.hid (hV4.out.chg hc5 (by omega))
      have hB5 := Lib.hid (hB4.out.trans (hc5.below (B := G) (Nat.le_refl _) (by omega)))
      clear hr5 hc5 hR4 hO4 hV4 hB4
      obtain ⟨k, rfl⟩ : ∃ k : Nat, x5 = k := ⟨x5.toNat, by omega⟩
      obtain ⟨ds, hds⟩ : ∃ ds, rs[k]? = some ds := ⟨_, List.getElem?_eq_getElem (by have := hNh.out; omega)⟩
      obtain ⟨x, y, rfl⟩ := hrw.out ds (List.mem_of_getElem? hds)
      obtain ⟨g3, gx, ox, cx, rfl, hg3, hgx, e0, e1, e2⟩ := row_at hV5.out hNh.out hds
      clear hds
      go_wp2_with fail
      go_quiet (fail)
      go_wp2_with fail
      go_ret3
      exact ⟨_, os, x, y, rfl, by rw [hGR]; exact owns_le hO5.out (by omega), hl2, by rw [hGR]; exact below_drewN hB5.out _⟩
    · obtain rfl : x4 = 0 := by omega
      go_wp2_with fail
      refine (pick_any G A n' c _ G _ _ hR4.out (by omega) hn' (by omega)).mono ?_
      rintro e w6 ⟨x6, rfl, x60, x61, hr6, hc6⟩
      have hz6 := hc6.size
      have hO6 := Lib.hid (hO4.out.chg hc6 (by omega))
      have hB6 := Lib.hid (hB4.out.trans (hc6.below (B := G) (Nat.le_refl _) (by omega)))
      have hR6 := Lib.hid hr6
      clear hr6 hc6 hR4 hO4 hB4 hV4
      go_wp2_with fail
      refine (pick_any G A n' c _ G _ _ hR6.out (by omega) hn' (by omega)).mono ?_
      rintro e w7 ⟨x7, rfl, x70, x71, hr7, hc7⟩
      have hz7 := hc7.size
      have hO7 := Lib.hid (hO6.out.chg hc7 (by omega))
      have hB7 := Lib.hid (hB6.out.trans (hc7.below (B := G) (Nat.le_refl _) (by omega)))
      have hR7 := Lib.hid hr7
      clear hr7 hc7 hR6 hO6 hB6
      go_wp2_with fail
      refine (pick_any G A n' c _ G _ _ hR7.out (by omega) hn' (by omega)).mono ?_
      rintro e w8 ⟨x8, rfl, x80, x81, hr8, hc8⟩
      have hO8 := Lib.hid (hO7.out.chg hc8 (by omega))
      have hB8 := Lib.hid (hB7.out.trans (hc8.below (B := G) (Nat.le_refl _) (by omega)))
      clear hr8 hc8 hR7 hO7 hB7
      go_wp2_with fail
      go_ret3
      exact ⟨_, os, _, _, rfl, by rw [hGR]; exact owns_le hO8.out (by omega), hl2, by rw [hGR]; exact hB8.out⟩
  · obtain rfl : N = 0 := by omega
    go_wp2_with fail
    refine (pick_any G A n' c _ G _ _ hR3.out (by omega) hn' (by omega)).mono ?_
    rintro e w6 ⟨x6, rfl, x60, x61, hr6, hc6⟩
    have hz6 := hc6.size
    have hO6 := Lib.hid (hO3.out.chg hc6 (by omega))
    have hB6 := Lib.hid (hB3.out.trans (hc6.below (B := G) (Nat.le_refl _) (by omega)))
    have hR6 := Lib.hid hr6
    clear hr6 hc6 hR3 hO3 hB3 hRv3
    go_wp2_with fail
    refine (pick_any G A n' c _ G _ _ hR6.out (by omega) hn' (by omega)).mono ?_
    rintro e w7 ⟨x7, rfl, x70, x71, hr7, hc7⟩
    have hz7 := hc7.size
    have hO7 := Lib.hid (hO6.out.chg hc7 (by omega))
    have hB7 := Lib.hid (hB6.out.trans (hc7.below (B := G) (Nat.le_refl _) (by omega)))
    have hR7 := Lib.hid hr7
    clear hr7 hc7 hR6 hO6 hB6
    go_wp2_with fail
    refine (pick_any G A n' c _ G _ _ hR7.out (by omega) hn' (by omega)).mono ?_
    rintro e w8 ⟨x8, rfl, x80, x81, hr8, hc8⟩
    have hO8 := Lib.hid (hO7.out.chg hc8 (by omega))
    have hB8 := Lib.hid (hB7.out.trans (hc8.below (B := G) (Nat.le_refl _) (by omega)))
    clear hr8 hc8 hR7 hO7 hB7
    go_wp2_with fail
    go_ret3
    exact ⟨_, os, _, _, rfl, by rw [hGR]; exact owns_le hO8.out (by omega), hl2, by rw [hGR]; exact hB8.out⟩
theorem DrawChangeDo_any (A : Option Addr) (n c : Nat) (w : World) (h : Byt w w.heap.size A n) (hn : n ≤ c) (hc : c ≤ maxLen) :
    Calls Try.prog 36 #[.slice A n c] w (Csd w) := by
  have hO := Lib.hid (l6Case_any A n c _ h hn hc)
  clear h hc
  go_enter Try.func36, Try.ntmps36
  go_wp2_with fail
  refine (hO.out).mono ?_
  rintro e w1 ⟨v, os, x, y, rfl, hO1, hl, hb⟩
  have hF := Lib.hid (show Csd w (.returned (.tuple #[v, .int .i64 x, .int .i64 y])) w1 from ⟨v, os, x, y, rfl, hO1, hl, hb⟩)
  obtain ⟨A2, c2, hv2, _, _⟩ := hO1.form
  subst hv2
  clear hO1 hb
  go_wp2_with fail
  go_ret3
  exact hF.out
def Tyd (w : World) (e : Ending) (w' : World) : Prop := ∃ (v : Value) (os : List St), e = .returned v ∧ Own w' w.heap.size v os ∧ os.length ≤ 20 ∧ Below w.heap.size w w'
theorem DrawTidy_any (A : Option Addr) (n c : Nat) (w : World) (h : Byt w w.heap.size A n) (hn : n ≤ c) (hc : c ≤ maxLen) :
    Calls Try.prog 11 #[.slice A n c] w (Tyd w) := by
  have hO := Lib.hid (l40Open_any A n c _ h hn hc)
  clear h hc
  go_enter Try.func11, Try.ntmps11
  go_wp2_with fail
  refine (hO.out).mono ?_
  rintro e w1 ⟨rfl, ⟨n', hn', hr1⟩, hb1⟩
  have hz := hr1.lt
  go_wp2_with fail
  refine (l6Draw_any w.heap.size A n' c 0 w.heap.size w1 hr1 (by omega) hn' (by omega)).mono ?_
  rintro e w2 ⟨v2, os, p2, rfl, hO2, hl2, hp2, hr2, hc2⟩
  have hF := Lib.hid (show Tyd w (.returned v2) w2 from ⟨v2, os, rfl, owns_le hO2 (by omega), hl2, hb1.trans (hc2.below (B := w.heap.size) (Nat.le_refl _) (by omega))⟩)
  obtain ⟨A2, c2, hv2, _, _⟩ := hO2.form
  subst hv2
  clear hO2 hr2 hc2 hb1 hr1
  go_wp2_with fail
  go_ret
  exact hF.out
end Go.Proofs.Ytkggejmamhakaaa

namespace Go.Proofs.Ytkggejmamhakaaa
set_option maxRecDepth 100000
set_option linter.unusedVariables false
open Go.RowKit
/-- How a list of numbers and whether there is one are told. -/
def Lbd (w : World) (os : List Int) (ok : Bool) (e : Ending) (w' : World) : Prop := ∃ v, e = .returned (.tuple #[v, .bool ok]) ∧ IOwn w' w.heap.size v os ∧ Below w.heap.size w w'
end Go.Proofs.Ytkggejmamhakaaa

namespace Go.Proofs.Ytkggejmamhakaaa
set_option maxRecDepth 100000
set_option linter.unusedVariables false
open Go.RowKit
/-- What lies in memory ahead of an entry. -/
def MdL (w wr : World) (base m : Nat) (os : List St) (ds : List Int) (o : Value) (i z : Nat) : Prop :=
  ∃ rs vs, Mst os m (fun h => rsum (valAt h os 0) ds 0) i z rs ∧ RowsV wr base o rs vs ∧ Apart vs ∧ Below base w wr
theorem rowsV_below {w w' : World} {base : Nat} {v : Value} {rs : List (List Int)} {vs : List Value} (h : RowsV w base v rs vs) (hb : Below w.heap.size w w') : RowsV w' base v rs vs :=
  h.but (KeptBut.of_below hb (fun _ => False)) (fun _ _ h => h) (fun _ _ _ _ _ h => h)
theorem MdL.below {w wr wr' : World} {base m i z : Nat} {os : List St} {ds : List Int} {o : Value} (h : MdL w wr base m os ds o i z) (hb : Below wr.heap.size wr wr') (hB : base ≤ wr.heap.size) : MdL w wr' base m os ds o i z := by
  obtain ⟨rs, vs, h1, h2, h3, h4⟩ := h
  exact ⟨rs, vs, h1, rowsV_below h2 hb, h3, h4.trans (hb.mono hB)⟩
end Go.Proofs.Ytkggejmamhakaaa

namespace Go.Proofs.Ytkggejmamhakaaa
set_option maxRecDepth 100000
set_option linter.unusedVariables false
open Go.RowKit
end Go.Proofs.Ytkggejmamhakaaa
namespace Go.Proofs.Ytkggejmamhakaaa
set_option maxRecDepth 100000
set_option linter.unusedVariables false
open Go.RowKit
/-- 1 for the first n states. -/
def cnt (n : Nat) (x : Int) : Int := if 0 ≤ x ∧ x < n then 1 else 0
theorem wts_cnt (os : List St) (st : Int) : ∀ n : Nat, isum ((List.range n).map fun (q : Nat) => valAt (ind q) os 0 st) = valAt (cnt n) os 0 st
  | 0 => by
    have e : cnt 0 = fun x => 0 * cnt 0 x := by
      funext x
      unfold cnt
      rw [if_neg (by omega)]; rfl
    have h : valAt (cnt 0) os 0 st = 0 * valAt (cnt 0) os 0 st := by
      conv => lhs; rw [e]
      exact val_mul 0 (cnt 0) _ _ _
    rw [h]; simp [isum]
  | n + 1 => by
    rw [List.range_succ, List.map_append, isum_append, wts_cnt os st n]
    have e : cnt (n + 1) = fun x => cnt n x + ind n x := by
      funext x
      unfold cnt ind
      by_cases h1 : 0 ≤ x ∧ x < n
      · rw [if_pos h1, if_pos (by omega), if_neg (by omega)]; rfl
      · by_cases h2 : x = n
        · rw [if_neg h1, if_pos (by omega), if_pos h2]; rfl
        · rw [if_neg h1, if_neg (by omega), if_neg h2]; rfl
    rw [e]
    have h := val_add (cnt n) (ind n) (os.drop 0) 0 st
    show valAt (cnt n) os 0 st + isum [valAt (ind n) os 0 st] = val _ (os.drop 0) 0 st
    rw [h]
    simp [isum, valAt]
theorem wts_sum {os : List St} {st : Int} (hok : ∀ s ∈ os, s.ok = true) (hs : 0 ≤ st ∧ st ≤ 80) : isum (wts os st) = valAt (fun _ => 1) os 0 st := by
  have h := wts_cnt os st 81
  unfold wts
  rw [h]
  refine val_congr (fun x h0 h1 => ?_) _ _ _ (fun s hx => hok s (List.mem_of_mem_drop hx)) hs
  unfold cnt
  rw [if_pos (by omega)]
theorem wts_nonneg {os : List St} {st : Int} (hok : ∀ s ∈ os, s.ok = true) (hs : 0 ≤ st ∧ st ≤ 80) : ∀ x ∈ wts os st, 0 ≤ x := fun x hx => by
  unfold wts at hx
  obtain ⟨q, _, rfl⟩ := List.mem_map.1 hx
  refine (val_bd (ind q) 1 (fun y _ _ => ?_) (by decide) _ _ _ (fun s hx => hok s (List.mem_of_mem_drop hx)) hs).1
  unfold ind
  split <;> omega
theorem wts_top {os : List St} {st : Int} (hok : ∀ s ∈ os, s.ok = true) (hl : os.length ≤ 12) (hs : 0 ≤ st ∧ st ≤ 80) : isum (wts os st) ≤ 150094635296999121 := by
  rw [wts_sum hok hs]
  have h := (val_bd (fun _ => 1) 1 (fun y _ _ => by decide) (by decide) (os.drop 0) 0 st (fun s hx => hok s (List.mem_of_mem_drop hx)) hs).2
  have h2 := V2_top hl 0
  unfold V2 at h2
  rw [Int.one_mul, List.drop_zero] at h
  rw [Nat.sub_zero] at h2
  exact Int.le_trans h h2
theorem weights_nonneg (ps : List St) : ∀ x ∈ weightsFrom ps 0, 0 ≤ x := by
  intro x hx
  unfold weightsFrom at hx
  cases hu : unrolled ps with
  | none => rw [hu] at hx; simp at hx
  | some os =>
    rw [hu] at hx
    obtain ⟨_, _, _, _, hOK⟩ := unrolled_parts hu
    exact wts_nonneg (st := 0) (fun s hs => List.all_eq_true.1 hOK s hs) (by decide) x hx
end Go.Proofs.Ytkggejmamhakaaa

namespace Go.Proofs.Ytkggejmamhakaaa
set_option maxRecDepth 100000
set_option linter.unusedVariables false
open Go.RowKit
def ansOk (ps : List St) : Bool := decide (isum (weightsFrom ps 0) ≠ 0)
def answOf (ps : List St) : List Int := answ (weightsFrom ps 0)
theorem weights_top (ps : List St) : isum (weightsFrom ps 0) ≤ 1000000000000000000 := by
  unfold weightsFrom
  cases hu : unrolled ps with
  | none => decide
  | some os =>
    obtain ⟨_, hlen, _, _, hOK⟩ := unrolled_parts hu
    have := wts_top (st := 0) (fun s hs => List.all_eq_true.1 hOK s hs) hlen (by decide)
    show isum (if inB 0 0 80 = true then wts os 0 else []) ≤ _
    rw [if_pos (by decide)]
    omega
theorem weights_bd (ps : List St) : ∀ x ∈ weightsFrom ps 0, 0 ≤ x ∧ x ≤ 1000000000000000000 := fun x hx => by
  have h0 := weights_nonneg ps
  have h1 := h0 x hx
  have h2 := rsum_ge (v := fun _ => 1) (fun _ => by decide) 0 h0 x hx
  rw [rsum_one'] at h2
  have h3 := weights_top ps
  omega
theorem answOf_len (ps : List St) : (answOf ps).length ≤ 81 := Nat.le_trans (answ_len _) (weightsFrom_len ps 0)
theorem answOf_81 {ps : List St} (h : ansOk ps = true) : (answOf ps).length = 81 := by
  have h0 := of_decide_eq_true h
  have hl : (weightsFrom ps 0).length = 81 := by
    unfold weightsFrom at h0 ⊢
    cases hu : unrolled ps with
    | none => rw [hu] at h0; exact absurd rfl h0
    | some os => exact wts_length os 0
  unfold answOf answ redL
  rw [if_neg h0, divL_len, hl]
set_option maxHeartbeats 1000000 in
theorem AnswerOf_any (A : Option Addr) (n c : Nat) (ps : List St) (w : World) (h : Lst w w.heap.size A n ps) (hn : n ≤ c) (hc : c ≤ maxLen) :
    Calls Try.prog 18 #[.slice A n c] w (Lbd w (answOf ps) (ansOk ps)) := by
  have hC := Lib.hid (WeightsOf_any A n c ps w h hn hc)
  have hl := weightsFrom_len ps 0
  have hBd := Lib.hid (weights_bd ps)
  have hT := weights_top ps
  have hTn := (isum_le (weights_nonneg ps) 0)
  have hR1 := Lib.hid (show answOf ps = answ (weightsFrom ps 0) from rfl)
  have hR2 := Lib.hid (show ansOk ps = decide (isum (weightsFrom ps 0) ≠ 0) from rfl)
  generalize weightsFrom ps 0 = ws at hC hl hBd hT hTn hR1 hR2
  have hG := gcdF_bd hBd.out (by decide)
  have hfd := tally_common
  clear h hc
  go_enter Try.func18, Try.ntmps18
  go_wp2_with fail
  refine (hC.out).mono ?_
  rintro e w1 ⟨v, rfl, hO, hb⟩
  obtain ⟨A2, c2, hv, hlc, hcm⟩ := hO.form
  subst hv
  have hI := Lib.hid hO.lst
  have hB := Lib.hid hb
  have hcm' : ws.length ≤ maxLen := by omega
  clear hO hb
  go_wp2_with fail
  refine (tallyOf_any A2 ws.length c2 ws _ hI.out hcm' (fun x hx => (hBd.out x hx).1) hT).mono ?_
  rintro e w2 ⟨rfl, hb⟩
  have hI2 := Lib.hid ((hI.out.below hb).more hb.size)
  have hB2 := Lib.hid (hB.out.trans (hb.mono hB.out.size))
  clear hb
  by_cases hs0 : isum ws = 0
  · have hF := Lib.hid (show ∀ w3, Below w.heap.size w w3 → Lbd w (answOf ps) (ansOk ps) (.returned (.tuple #[.slice none 0 0, .bool false])) w3 from fun w3 hb3 => by
      refine ⟨.slice none 0 0, by rw [hR2.out]; simp [hs0], ?_, hb3⟩
      rw [hR1.out]
      unfold answ
      rw [if_pos hs0]
      exact IOwn.nil _ _)
    rw [hs0]
    go_wp2_with fail
    go_ret2
    exact hF.out _ (hB2.out.alloc hB2.out.size _)
  · have hI3 := Lib.hid (((hI2.out).below (((Below.refl w2.heap.size w2).alloc (Nat.le_refl _) (.cells #[.int .i64 (isum ws), .int .i64 (gcdF ws)] 68)))).more (B' := (w2.alloc (.cells #[.int .i64 (isum ws), .int .i64 (gcdF ws)] 68)).heap.size) (by simp))
    have hB3 := Lib.hid (hB2.out.alloc hB2.out.size (.cells #[.int .i64 (isum ws), .int .i64 (gcdF ws)] 68))
    have hF := Lib.hid (show ∀ w3 o, IOwn w3 w.heap.size o (divL ws (gcdF ws)) → Below w.heap.size w w3 → Lbd w (answOf ps) (ansOk ps) (.returned (.tuple #[o, .bool true])) w3 from fun w3 o ho hb3 => by
      refine ⟨o, by rw [hR2.out]; simp [hs0], ?_, hb3⟩
      rw [hR1.out]
      unfold answ redL
      rw [if_neg hs0]
      exact ho)
    go_wp2_with fail
    refine (divided_any A2 ws.length c2 ws (gcdF ws) _ hI3.out (by omega) hG hBd.out).mono ?_
    rintro e w4 ⟨o, rfl, hO, hb⟩
    have hF2 := Lib.hid (hF.out w4 o (owns_le hO hB3.out.size) (hB3.out.trans (hb.mono hB3.out.size)))
    clear hO hb
    go_wp2_with fail
    go_ret2
    exact hF2.out
/-- Whether two answers are the same. -/
def sameA (ps qs : List St) : Bool := ansOk ps && (ansOk qs && decide (answOf ps = answOf qs))
set_option maxHeartbeats 1000000 in
theorem SameAnswer_any (A A2 : Option Addr) (n c n2 c2 : Nat) (ps qs : List St) (w : World) (h : Lst w w.heap.size A n ps) (hn : n ≤ c) (hc : c ≤ maxLen) (h2 : Lst w w.heap.size A2 n2 qs) (hn2 : n2 ≤ c2) (hc2 : c2 ≤ maxLen) :
    Calls Try.prog 20 #[.slice A n c, .slice A2 n2 c2] w fun e w' => e = .returned (.bool (sameA ps qs)) ∧ Below w.heap.size w w' := by
  have cP := Lib.hid (AnswerOf_any A n c ps w h hn hc)
  have cQ := Lib.hid (fun wx (hx : Lst wx wx.heap.size A2 n2 qs) => AnswerOf_any A2 n2 c2 qs wx hx hn2 hc2)
  have hQ := Lib.hid h2
  have hR := Lib.hid (show sameA ps qs = (ansOk ps && (ansOk qs && decide (answOf ps = answOf qs))) from rfl)
  have l1 := Lib.hid (fun h => answOf_81 (ps := ps) h)
  have l2 := Lib.hid (fun h => answOf_81 (ps := qs) h)
  have k1 := answOf_len ps
  have k2 := answOf_len qs
  generalize answOf ps = xs1 at cP hR l1 k1
  generalize answOf qs = ys1 at cQ hR l2 k2
  generalize ansOk ps = o1 at cP hR l1
  generalize ansOk qs = o2 at cQ hR l2
  clear h h2 hc hc2
  go_enter Try.func20, Try.ntmps20
  go_wp2_with fail
  refine (cP.out).mono ?_
  rintro e w1 ⟨v, rfl, hO, hb⟩
  obtain ⟨A3, c3, hv, hlc, hcm⟩ := hO.form
  subst hv
  have hI := Lib.hid hO.lst
  have hB := Lib.hid hb
  have hQ1 := Lib.hid ((hQ.out.below hb).more hb.size)
  clear hO hb
  go_wp2_with fail
  refine (cQ.out _ hQ1.out).mono ?_
  rintro e w2 ⟨v, rfl, hO, hb⟩
  obtain ⟨A4, c4, hv, hlc4, hcm4⟩ := hO.form
  subst hv
  have hI2 := Lib.hid ((hI.out.below hb).more hb.size)
  have hJ2 := Lib.hid hO.lst
  have hB2 := Lib.hid (hB.out.trans (hb.mono hB.out.size))
  clear hO hb
  cases o1
  · have hF := Lib.hid (show sameA ps qs = false by rw [hR.out]; rfl)
    go_wp2_with fail
    go_ret
    exact ⟨ret_bool hF.out, hB2.out⟩
  · cases o2
    · have hF := Lib.hid (show sameA ps qs = false by rw [hR.out]; rfl)
      go_wp2_with fail
      go_ret
      exact ⟨ret_bool hF.out, hB2.out⟩
    · have hF := Lib.hid (show sameA ps qs = decide (xs1 = ys1) by rw [hR.out]; rfl)
      have e1 := l1.out rfl
      have e2 := l2.out rfl
      rw [e1] at hI2
      rw [e2] at hJ2
      rw [e1, e2]
      go_wp2_with fail
      go_loopg [29] 81 (fun gn v wr => ∃ k : Nat, k ≤ 81 ∧ gn = 81 - k ∧ v = .int .i64 k ∧ xs1.take k = ys1.take k ∧ Below w2.heap.size w2 wr)
      case atStart => exact ⟨0, Nat.zero_le _, rfl, rfl, by simp, Below.refl _ _⟩
      case round =>
        obtain ⟨k, hk, hgn, rfl, heq, hBr⟩ := hrel
        have hgk : gk = 81 - k := hgn
        have hE := Lib.hid heq
        have hBr' := Lib.hid hBr
        have hBW := Lib.hid (hB2.out.trans (hBr.mono hB2.out.size))
        clear hgn heq
        by_cases hlt : k < 81
        · obtain ⟨g, off, a, rfl, hg, hs, c0⟩ := (hI2.out.below hBr).at_ hlt
          obtain ⟨g2, off2, b, rfl, hg2, hs2, d0⟩ := (hJ2.out.below hBr).at_ hlt
          have hk0 : (0 : Int) ≤ (k : Int) := by omega
          have hk1 : (k : Int) < 81 := by omega
          by_cases hab : a = b
          · subst hab
            have hT := Lib.hid (take_next hE.out hs hs2)
            have hne : (a != a) = false := by simp
            clear hs hs2 hBr
            go_wp2_with fail
            go_roundg (81 - (k + 1))
            case measure => omega
            case rel => exact ⟨k + 1, by omega, rfl, by go_num, hT.out, hBr'.out⟩
          · have hN := Lib.hid (hF.out.trans (ils_ne hs hs2 hab))
            have hab' : (b != a) = true := by simpa using fun e => hab e.symm
            clear hs hs2 hab hBr
            go_wp2_with fail
            go_ret
            exact ⟨ret_bool hN.out, hBW.out⟩
        · obtain rfl : k = 81 := by omega
          have hN := Lib.hid (show sameA ps qs = true by
            rw [hF.out]
            have := hE.out
            rw [List.take_of_length_le (by omega), List.take_of_length_le (by omega)] at this
            exact decide_eq_true this)
          clear hBr
          go_wp2_with fail
          go_ret
          exact ⟨ret_bool hN.out, hBW.out⟩
end Go.Proofs.Ytkggejmamhakaaa

namespace Go.Proofs.Ytkggejmamhakaaa
set_option maxRecDepth 100000
set_option linter.unusedVariables false
open Go.RowKit
theorem val_append (h : Int → Int) {b : List St} : ∀ (a : List St) (k : Nat) (st : Int), k ≤ a.length → (∀ (i : Nat) (s : St), a[i]? = some s → s.k = 6 → i + 1 + s.b.toNat ≤ a.length) → val h (a ++ b) k st = val (fun x => val h b 0 x) a k st
  | [], 0, st, _, _ => by simp [val]
  | [], k + 1, st, hk, _ => by simp at hk
  | s :: r, k + 1, st, hk, hp => by
    rw [List.cons_append, val, val]
    exact val_append h r k st (by simp at hk; omega) (fun i q hq h6 => by
      have := hp (i + 1) q (by simpa using hq) h6
      simp at this; omega)
  | s :: r, 0, st, _, hp => by
    have hr : ∀ (i : Nat) (q : St), r[i]? = some q → q.k = 6 → i + 1 + q.b.toNat ≤ r.length := fun i q hq h6 => by
      have := hp (i + 1) q (by simpa using hq) h6
      simp at this; omega
    have key : ∀ (k' : Nat) (st' : Int), k' ≤ r.length → val h (r ++ b) k' st' = val (fun x => val h b 0 x) r k' st' := fun k' st' hk' => val_append h r k' st' hk' hr
    have hj : s.jump st ≤ r.length := by
      unfold St.jump
      split
      · rename_i hc
        have := hp 0 s rfl hc.1
        simp at this
        omega
      · omega
    rw [List.cons_append, val, val, key 0 _ (by omega), key 0 _ (by omega), key 0 _ (by omega), key _ _ hj]
end Go.Proofs.Ytkggejmamhakaaa
