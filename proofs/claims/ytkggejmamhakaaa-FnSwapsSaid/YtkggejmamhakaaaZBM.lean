/- Parts of the proof: D6, E3, Wcp, OpB. -/
import Derived.Test.YtkggejmamhakaaaZAT
import Derived.Test.YtkggejmamhakaaaZAS
import Derived.Test.YtkggejmamhakaaaZBL
import Derived.Test.YtkggejmamhakaaaZBK
import Derived.Test.YtkggejmamhakaaaZAK
import Derived.Test.YtkggejmamhakaaaZAM
import Derived.StillTailTactics
import Derived.Test.YtkggejmamhakaaaZAH
import Derived.Test.YtkggejmamhakaaaZAC
import Derived.Test.YtkggejmamhakaaaZAI
namespace Go.Proofs.Ytkggejmamhakaaa
set_option maxRecDepth 100000
set_option linter.unusedVariables false
open Go.RowKit
def tdA (v : Value) (f : Nat → Nat) (b : Int) : Array Value := #[v, .int .i64 (f 0), .int .i64 (f 1), .int .i64 (f 2), .int .i64 (f 3), .int .i64 (f 4), .int .i64 b]
/-- A tidier in block g: its list, from where each change may fit, and what it has divided by. -/
def Tdr (w : World) (base g : Nat) (v : Value) (ps : List St) (f : Nat → Nat) (b : Int) : Prop := base ≤ g ∧ Has w g 57 (tdA v f b) ∧ Own w base v ps
theorem ttd : (63 : TypeId) ≠ 57 := by decide
theorem own_ne {w : World} {base g : Nat} {v : Value} {ps : List St} {cs : Array Value} (ho : Own w base v ps) (hg : Has w g 57 cs) : ∀ k, v.ownBlock = some k → k ≠ g := by
  intro k hk e
  subst e
  rcases ho.2 with ⟨hv, _⟩ | ⟨b, cap, cur, hv, hb, hh, _⟩
  · rw [hv] at hk; cases hk
  · rw [hv] at hk
    have e : b = k := by simpa [Value.ownBlock] using hk
    subst e
    have e2 := Option.some.inj (hh.symm.trans hg)
    injection e2 with _ e3
    exact ttd e3
theorem Tdr.set {w : World} {base g : Nat} {v : Value} {ps : List St} {f f' : Nat → Nat} {b b' : Int} (h : Tdr w base g v ps f b) (i : Nat) (u : Value) (he : (tdA v f b).setIfInBounds i u = tdA v f' b') : Tdr (w.setCell ⟨g, i, none⟩ u) base g v ps f' b' := by
  refine ⟨h.1, he ▸ h.2.1.put i u, ?_⟩
  have hk : KeptBut w (w.setCell ⟨g, i, none⟩ u) (fun k => k = g) := KeptBut.put (p := ⟨g, i, none⟩) (KeptBut.refl w (fun k => k = g)) (fun _ => rfl) u
  exact owns_but h.2.2 hk (own_ne h.2.2 h.2.1)
theorem Tdr.drew {w : World} {base g : Nat} {v : Value} {ps : List St} {f : Nat → Nat} {b : Int} (h : Tdr w base g v ps f b) (n : Nat) : Tdr (w.drewN n) base g v ps f b := h
theorem Tdr.below {w w' : World} {base g : Nat} {v : Value} {ps : List St} {f : Nat → Nat} {b : Int} (h : Tdr w base g v ps f b) (hb : Below w.heap.size w w') : Tdr w' base g v ps f b := ⟨h.1, h.2.1.kept hb, h.2.2.below hb⟩
def mb (t : Nat) (f : Nat → Nat) (k : Nat) : Nat → Nat := fun d => if d < k then min (f d) t else f d
end Go.Proofs.Ytkggejmamhakaaa
namespace Go.Proofs.Ytkggejmamhakaaa
set_option maxRecDepth 100000
set_option linter.unusedVariables false
open Go.RowKit
theorem Tdr.at_ {w : World} {base g : Nat} {v : Value} {ps : List St} {f : Nat → Nat} {b : Int} (h : Tdr w base g v ps f b) {c : Nat} (hc : c < 5) : w.cell? ⟨g, 1 + c, none⟩ = some (.int .i64 (f c)) := by
  rw [h.2.1.cell]
  obtain rfl | rfl | rfl | rfl | rfl : c = 0 ∨ c = 1 ∨ c = 2 ∨ c = 3 ∨ c = 4 := by omega
  all_goals simp [tdA]
theorem tdA_put {v : Value} {f : Nat → Nat} {b : Int} {c x : Nat} (hc : c < 5) : (tdA v f b).setIfInBounds (1 + c) (.int .i64 (x : Int)) = tdA v (fun d => if d = c then x else f d) b := by
  obtain rfl | rfl | rfl | rfl | rfl : c = 0 ∨ c = 1 ∨ c = 2 ∨ c = 3 ∨ c = 4 := by omega
  all_goals simp [tdA]
theorem Tdr.put {w : World} {base g : Nat} {v : Value} {ps : List St} {f : Nat → Nat} {b : Int} (h : Tdr w base g v ps f b) {c : Nat} (hc : c < 5) (x : Nat) : Tdr (w.setCell ⟨g, 1 + c, none⟩ (.int .i64 (x : Int))) base g v ps (fun d => if d = c then x else f d) b := h.set (1 + c) _ (tdA_put hc)
/-- From where each change may fit: ahead of it none does. -/
def TInv (ps : List St) (f : Nat → Nat) : Prop := ∀ d : Nat, f d ≤ ps.length ∧ ∀ j, j < f d → 1 ≤ d → d ≤ 4 → fitAt (d : Int) ps j = false
theorem TInv.next {ps : List St} {f : Nat → Nat} (h : TInv ps f) {c : Nat} (hl : f c < ps.length) (hf : fitAt (c : Int) ps (f c) = false) : TInv ps (fun d => if d = c then f c + 1 else f d) := by
  intro d
  by_cases hd : d = c
  · subst hd
    show (if d = d then f d + 1 else f d) ≤ ps.length ∧ ∀ j, j < (if d = d then f d + 1 else f d) → 1 ≤ d → d ≤ 4 → fitAt (d : Int) ps j = false
    rw [if_pos rfl]
    refine ⟨hl, fun j hj h1 h2 => ?_⟩
    by_cases he : j = f d
    · rw [he]; exact hf
    · exact (h d).2 j (by omega) h1 h2
  · show (if d = c then f c + 1 else f d) ≤ ps.length ∧ ∀ j, j < (if d = c then f c + 1 else f d) → 1 ≤ d → d ≤ 4 → fitAt (d : Int) ps j = false
    rw [if_neg hd]
    exact h d
theorem done_get {c : Int} {ps : List St} {i j : Nat} {a : St} (ha : ps[i]? = some a) (hj : j < i) : (chDone c ps i)[j]? = ps[j]? := by
  have hl : i < ps.length := (List.getElem?_eq_some_iff.1 ha).1
  rw [done_eq ha, List.append_assoc, List.getElem?_append_left (by rw [List.length_take]; omega), List.getElem?_take, if_pos hj]
theorem TInv.done {ps : List St} {f : Nat → Nat} (h : TInv ps f) {c : Int} {i : Nat} {a : St} (ha : ps[i]? = some a) : TInv (chDone c ps i) (fun d => min (f d) (i - 1)) := by
  have hl : i < ps.length := (List.getElem?_eq_some_iff.1 ha).1
  have hdl : i ≤ (chDone c ps i).length := by
    rw [done_eq ha, List.append_assoc, List.length_append, List.length_take]
    omega
  intro d
  refine ⟨by show min (f d) (i - 1) ≤ _; omega, fun j hj h1 h2 => ?_⟩
  have hj' : j < min (f d) (i - 1) := hj
  have h3 := (h d).2 j (by omega) h1 h2
  unfold fitAt at h3 ⊢
  rw [done_get ha (show j < i by omega), done_get ha (show j + 1 < i by omega)]
  exact h3
theorem Lst.win {w : World} {B n k g off : Nat} {ps : List St} {a : St} (h : Lst w B (some ⟨g, off, none⟩) n ps) (ha : ps[k]? = some a) : Lst w B (some ⟨g, off + k * 7, none⟩) (1 + ps[k + 1]?.toList.length) (a :: ps[k + 1]?.toList) := by
  have hk : k < ps.length := (List.getElem?_eq_some_iff.1 ha).1
  have hn := h.1
  cases hb : ps[k + 1]? with
  | none =>
    have := h.part_ (k := k) (m := 1) (by omega) (by omega)
    rw [drop_cons ha] at this
    exact this
  | some b =>
    have hk2 : k + 1 < ps.length := (List.getElem?_eq_some_iff.1 hb).1
    have := h.part_ (k := k) (m := 2) (by omega) (by omega)
    rwa [← win_len ha, hb] at this
end Go.Proofs.Ytkggejmamhakaaa
namespace Go.Proofs.Ytkggejmamhakaaa
set_option maxRecDepth 100000
set_option linter.unusedVariables false
open Go.RowKit
end Go.Proofs.Ytkggejmamhakaaa
namespace Go.Proofs.Ytkggejmamhakaaa
set_option maxRecDepth 100000
set_option linter.unusedVariables false
open Go.RowKit
end Go.Proofs.Ytkggejmamhakaaa
namespace Go.Proofs.Ytkggejmamhakaaa
set_option maxRecDepth 100000
set_option linter.unusedVariables false
open Go.RowKit
/-- What is on its way to be tidy. -/
def Way (ps qs : List St) (b : Int) : Prop := plainOk qs = true ∧ tidy ps 1 = tidy qs b ∧ 1 ≤ b ∧ b * sumWs qs ≤ sumWs ps
theorem Way.start {ps : List St} (h : plainOk ps = true) : Way ps ps 1 := ⟨h, rfl, Int.le_refl _, by rw [Int.one_mul]; exact Int.le_refl _⟩
theorem Way.step {ps qs : List St} {b : Int} (h : Way ps qs b) {c : Int} {i : Nat} {a : St} (hn : nextCh qs = some (c, i)) (ha : qs[i]? = some a) : Way ps (chDone c qs i) (b * facBy c a) ∧ masses (chDone c qs i) < masses qs ∧ 0 ≤ masses (chDone c qs i) ∧ (0 ≤ c ∧ c ≤ 4) ∧ fits c a qs[i + 1]? = true := by
  obtain ⟨hc, hf⟩ := next_fit hn
  have hc' : 0 ≤ c ∧ c ≤ 4 := ⟨by omega, hc.2⟩
  obtain ⟨a', ha', hfa⟩ := fitAt_some hf
  rw [ha] at ha'
  obtain rfl : a = a' := by injection ha'
  have hoa := (plain_iff.1 h.1).2 a (List.mem_of_getElem? ha)
  have h2 := done_plain hc' h.1 hf
  have hfp := (fac_pos hc' hoa hfa).1
  have hb := h.2.2.1
  refine ⟨⟨h2, h.2.1.trans (tidy_step h.1 hn ha), ?_, ?_⟩, done_less hc h.1 hf, (masses_bd (plain_iff.1 h2).2).1, hc', hfa⟩
  · have := Int.mul_le_mul hb hfp (by omega) (by omega)
    omega
  · rw [Int.mul_assoc]
    exact Int.le_trans (Int.mul_le_mul_of_nonneg_left (done_sumW hc' h.1 hf ha) (by omega)) h.2.2.2
end Go.Proofs.Ytkggejmamhakaaa
namespace Go.Proofs.Ytkggejmamhakaaa
set_option maxRecDepth 100000
set_option linter.unusedVariables false
open Go.RowKit
theorem cg_all {ps : List St} {c : Int} {i : Nat} {a : St} (hp : plainOk ps = true) (hc : 0 ≤ c ∧ c ≤ 4) (ha : ps[i]? = some a) (hf : fits c a ps[i + 1]? = true) : cgOk ps c i = true ∧ cgDo ps c i = chDone c ps i ∧ cgBy ps c i = facBy c a := by
  have hl : i < ps.length := (List.getElem?_eq_some_iff.1 ha).1
  have h1 : cgOk ps c i = true := by
    unfold cgOk
    rw [hp, inB_iff.2 hc, inB_iff.2 (show (0 : Int) ≤ (i : Int) ∧ (i : Int) ≤ (ps.length : Int) - 1 by omega), Int.toNat_natCast]
    unfold fitAt
    rw [ha]
    simpa using hf
  refine ⟨h1, ?_, ?_⟩
  · unfold cgDo
    rw [if_pos h1, Int.toNat_natCast]
  · unfold cgBy
    rw [if_pos h1, Int.toNat_natCast, List.getD_eq_getElem?_getD, ha]
    rfl
/-- A row of two numbers in a list of rows. -/
theorem row_at {w : World} {base : Nat} {A : Option Addr} {n c k : Nat} {rs : List (List Int)} {vs : List Value} {x y : Int} (h : RowsV w base (.slice A n c) rs vs) (hn : rs.length = n) (hr : rs[k]? = some [x, y]) :
    ∃ (g gx ox cx : Nat), A = some ⟨g, 0, none⟩ ∧ g < w.heap.size ∧ gx < w.heap.size ∧ w.cell? ⟨g, k, none⟩ = some (.slice (some ⟨gx, ox, none⟩) 2 cx) ∧ w.cell? ⟨gx, ox, none⟩ = some (.int .i64 x) ∧ w.cell? ⟨gx, ox + 1, none⟩ = some (.int .i64 y) := by
  have hk : k < n := by have := (List.getElem?_eq_some_iff.1 hr).1; omega
  obtain ⟨g, Ax, cx, ds, rfl, hvx, c0, hds, hxo⟩ := h.at_ hn hk
  rw [hr] at hds
  obtain rfl : [x, y] = ds := by injection hds
  obtain ⟨gx, ox, rfl, hgx, hcx⟩ := (IOwn.lst (n := 2) hxo).2 (by decide)
  have hg : g < w.heap.size := (World.ownsRow.lt h.1 g rfl).2
  exact ⟨g, gx, ox, cx, rfl, hg, hgx, c0, hcx 0 x rfl, hcx 1 y rfl⟩
end Go.Proofs.Ytkggejmamhakaaa

namespace Go.Proofs.Ytkggejmamhakaaa
set_option maxRecDepth 100000
set_option linter.unusedVariables false
open Go.RowKit
theorem Rdr.kept {w w' : World} {B R : Nat} {A : Option Addr} {n c p : Nat} (h : Rdr w B R A n c p) (hb : Below w.heap.size w w') (hB : B ≤ w.heap.size) : Rdr w' B R A n c p :=
  ⟨h.1.kept hb, h.2.1, h.2.2.keep (hb.mono hB)⟩
theorem RowsV.chg {w w' : World} {base R : Nat} {v : Value} {rs : List (List Int)} {vs : List Value} (h : RowsV w base v rs vs) (hc : Chg w w' R) (hR : R < base) : RowsV w' base v rs vs :=
  h.but (KeptBut.of_grown (S := fun i => i = R) hc (fun k e => by injection e with e; exact e.symm)) (fun k hk e => by have := (World.ownsRow.lt h.1 k hk).1; omega) (fun k cur _ hk _ e => by omega)
theorem ch_two {ps : List St} {ds : List Int} (h : ds ∈ chRows ps) : ∃ x y : Int, ds = [x, y] := by
  have h1 : ∀ c k, ∀ ds ∈ rowsAt ps c k, ∃ x y : Int, ds = [x, y] := fun c k ds hd => by
    unfold rowsAt at hd
    obtain ⟨i, _, rfl⟩ := List.mem_map.1 hd
    exact ⟨_, _, rfl⟩
  have h2 : ∀ c, ∀ ds ∈ rowsTo ps c, ∃ x y : Int, ds = [x, y] := fun c => by
    induction c with
    | zero => intro ds hd; simp [rowsTo] at hd
    | succ c ih =>
      intro ds hd
      rw [rowsTo] at hd
      rcases List.mem_append.1 hd with hd | hd
      · exact ih ds hd
      · exact h1 _ _ ds hd
  unfold chRows at h
  split at h
  · exact h2 5 ds h
  · simp at h
theorem ch_len {ps : List St} (h : ps.length ≤ 20) : (chRows ps).length ≤ 100 := by
  unfold chRows
  split
  · have := rowsTo_len ps 5
    omega
  · simp
def Csd (w : World) (e : Ending) (w' : World) : Prop := ∃ (v : Value) (os : List St) (x y : Int), e = .returned (.tuple #[v, .int .i64 x, .int .i64 y]) ∧ Own w' w.heap.size v os ∧ os.length ≤ 20 ∧ Below w.heap.size w w'
set_option maxHeartbeats 4000000 in
theorem l6Case_any (A : Option Addr) (n c : Nat) (w : World) (h : Byt w w.heap.size A n) (hn : n ≤ c) (hc : c ≤ maxLen) :
    Calls Try.prog 55 #[.slice A n c] w (Csd w) := by
  have hO := Lib.hid (l40Open_any A n c _ h hn hc)
  clear h hc
  go_enter Try.func55, Try.ntmps55
  go_wp2_with fail
  refine (hO.out).mono ?_
  rintro e w1 ⟨rfl, ⟨n', hn', hr1⟩, hb1⟩
  have hz := hr1.lt
  generalize hGR : w.heap.size = G at hr1 hb1 hz ⊢
  clear hO
  go_wp2_with fail
  refine (l6Draw_any G A n' c 0 G w1 hr1 (by omega) hn' (by omega)).mono ?_
  rintro e w2 ⟨v2, os, p2, rfl, hO2, hl2, hp2, hr2, hc2⟩
  obtain ⟨A2, c2, hv2, hlc, hlm⟩ := hO2.form
  subst hv2
  have hz2 := hc2.size
  have hB2 := Lib.hid (show Below G w w2 from hb1.trans (hc2.below (B := G) (Nat.le_refl _) (by omega)))
  have cC := Lib.hid (specChangesOf_any A2 os.length c2 os w2 hO2.lst hlc hlm (by omega))
  have hR2 := Lib.hid hr2
  have hOw2 := Lib.hid hO2
  clear hr2 hc2 hr1 hb1 hO2
  go_wp2_with fail
  refine cC.out.mono ?_
  rintro e w3 ⟨v3, vs, rfl, hRv, hb3⟩
  obtain ⟨A3, c3, hv3, hlc3, hlm3⟩ := hRv.form
  subst hv3
  have hz3 := hb3.size
  have hR3 := Lib.hid (hR2.out.kept hb3 (by omega))
  have hO3 := Lib.hid (hOw2.out.below hb3)
  have hB3 := Lib.hid (hB2.out.trans (hb3.mono (by omega)))
  have hrl : (chRows os).length ≤ 100 := ch_len hl2
  have hrw := Lib.hid (fun ds (hd : ds ∈ chRows os) => ch_two hd)
  generalize chRows os = rs at hRv hlc3 hrl hrw ⊢
  obtain ⟨N, hN⟩ : ∃ N, rs.length = N := ⟨_, rfl⟩
  have hRv3 := Lib.hid hRv
  rw [hN] at hRv3 hlc3 hrl ⊢
  have hNh := Lib.hid hN
  clear hRv hb3 cC hR2 hOw2 hB2 hN
  by_cases hN0 : 0 < N
  · have hN0' : (0 : Int) < (N : Int) := by omega
    go_wp2_with fail
    refine (pick_any G A n' c _ G _ _ hR3.out (by omega) hn' (by omega)).mono ?_
    rintro e w4 ⟨x4, rfl, x40, x41, hr4, hc4⟩
    have hz4 := hc4.size
    have hR4 := Lib.hid hr4
    have hO4 := Lib.hid (hO3.out.chg hc4 (by omega))
    have hV4 := Lib.hid (hRv3.out.chg hc4 (by omega))
    have hB4 := Lib.hid (hB3.out.trans (hc4.below (B := G) (Nat.le_refl _) (by omega)))
    clear hr4 hc4 hR3 hO3 hRv3 hB3
    by_cases hx4 : 0 < x4
    · go_wp2_with fail
      refine (pick_any G A n' c _ G _ _ hR4.out (by omega) hn' (by omega)).mono ?_
      rintro e w5 ⟨x5, rfl, x50, x51, hr5, hc5⟩
      have hz5 := hc5.size
      have hO5 := Lib.hid (hO4.out.chg hc5 (by omega))
      have hV5 := Lib.hid (hV4.out.chg hc5 (by omega))
      have hB5 := Lib.hid (hB4.out.trans (hc5.below (B := G) (Nat.le_refl _) (by omega)))
      clear hr5 hc5 hR4 hO4 hV4 hB4
      obtain ⟨k, rfl⟩ : ∃ k : Nat, x5 = k := ⟨x5.toNat, by omega⟩
      obtain ⟨ds, hds⟩ : ∃ ds, rs[k]? = some ds := ⟨_, List.getElem?_eq_getElem (by have := hNh.out; omega)⟩
      obtain ⟨x, y, rfl⟩ := hrw.out ds (List.mem_of_getElem? hds)
      obtain ⟨g3, gx, ox, cx, rfl, hg3, hgx, e0, e1, e2⟩ := row_at hV5.out hNh.out hds
      clear hds
      go_wp2_with fail
      go_quiet (fail)
      go_wp2_with fail
      go_ret3
      exact ⟨_, os, x, y, rfl, by rw [hGR]; exact owns_le hO5.out (by omega), hl2, by rw [hGR]; exact below_drewN hB5.out _⟩
    · obtain rfl : x4 = 0 := by omega
      go_wp2_with fail
      refine (pick_any G A n' c _ G _ _ hR4.out (by omega) hn' (by omega)).mono ?_
      rintro e w6 ⟨x6, rfl, x60, x61, hr6, hc6⟩
      have hz6 := hc6.size
      have hO6 := Lib.hid (hO4.out.chg hc6 (by omega))
      have hB6 := Lib.hid (hB4.out.trans (hc6.below (B := G) (Nat.le_refl _) (by omega)))
      have hR6 := Lib.hid hr6
      clear hr6 hc6 hR4 hO4 hB4 hV4
      go_wp2_with fail
      refine (pick_any G A n' c _ G _ _ hR6.out (by omega) hn' (by omega)).mono ?_
      rintro e w7 ⟨x7, rfl, x70, x71, hr7, hc7⟩
      have hz7 := hc7.size
      have hO7 := Lib.hid (hO6.out.chg hc7 (by omega))
      have hB7 := Lib.hid (hB6.out.trans (hc7.below (B := G) (Nat.le_refl _) (by omega)))
      have hR7 := Lib.hid hr7
      clear hr7 hc7 hR6 hO6 hB6
      go_wp2_with fail
      refine (pick_any G A n' c _ G _ _ hR7.out (by omega) hn' (by omega)).mono ?_
      rintro e w8 ⟨x8, rfl, x80, x81, hr8, hc8⟩
      have hO8 := Lib.hid (hO7.out.chg hc8 (by omega))
      have hB8 := Lib.hid (hB7.out.trans (hc8.below (B := G) (Nat.le_refl _) (by omega)))
      clear hr8 hc8 hR7 hO7 hB7
      go_wp2_with fail
      go_ret3
      exact ⟨_, os, _, _, rfl, by rw [hGR]; exact owns_le hO8.out (by omega), hl2, by rw [hGR]; exact hB8.out⟩
  · obtain rfl : N = 0 := by omega
    go_wp2_with fail
    refine (pick_any G A n' c _ G _ _ hR3.out (by omega) hn' (by omega)).mono ?_
    rintro e w6 ⟨x6, rfl, x60, x61, hr6, hc6⟩
    have hz6 := hc6.size
    have hO6 := Lib.hid (hO3.out.chg hc6 (by omega))
    have hB6 := Lib.hid (hB3.out.trans (hc6.below (B := G) (Nat.le_refl _) (by omega)))
    have hR6 := Lib.hid hr6
    clear hr6 hc6 hR3 hO3 hB3 hRv3
    go_wp2_with fail
    refine (pick_any G A n' c _ G _ _ hR6.out (by omega) hn' (by omega)).mono ?_
    rintro e w7 ⟨x7, rfl, x70, x71, hr7, hc7⟩
    have hz7 := hc7.size
    have hO7 := Lib.hid (hO6.out.chg hc7 (by omega))
    have hB7 := Lib.hid (hB6.out.trans (hc7.below (B := G) (Nat.le_refl _) (by omega)))
    have hR7 := Lib.hid hr7
    clear hr7 hc7 hR6 hO6 hB6
    go_wp2_with fail
    refine (pick_any G A n' c _ G _ _ hR7.out (by omega) hn' (by omega)).mono ?_
    rintro e w8 ⟨x8, rfl, x80, x81, hr8, hc8⟩
    have hO8 := Lib.hid (hO7.out.chg hc8 (by omega))
    have hB8 := Lib.hid (hB7.out.trans (hc8.below (B := G) (Nat.le_refl _) (by omega)))
    clear hr8 hc8 hR7 hO7 hB7
    go_wp2_with fail
    go_ret3
    exact ⟨_, os, _, _, rfl, by rw [hGR]; exact owns_le hO8.out (by omega), hl2, by rw [hGR]; exact hB8.out⟩
theorem DrawChangeOk_any (A : Option Addr) (n c : Nat) (w : World) (h : Byt w w.heap.size A n) (hn : n ≤ c) (hc : c ≤ maxLen) :
    Calls Try.prog 21 #[.slice A n c] w (Csd w) := by
  have hO := Lib.hid (l6Case_any A n c _ h hn hc)
  clear h hc
  go_enter Try.func21, Try.ntmps21
  go_wp2_with fail
  refine (hO.out).mono ?_
  rintro e w1 ⟨v, os, x, y, rfl, hO1, hl, hb⟩
  have hF := Lib.hid (show Csd w (.returned (.tuple #[v, .int .i64 x, .int .i64 y])) w1 from ⟨v, os, x, y, rfl, hO1, hl, hb⟩)
  obtain ⟨A2, c2, hv2, _, _⟩ := hO1.form
  subst hv2
  clear hO1 hb
  go_wp2_with fail
  go_ret3
  exact hF.out
end Go.Proofs.Ytkggejmamhakaaa

namespace Go.Proofs.Ytkggejmamhakaaa
set_option maxRecDepth 100000
open Go.RowKit
theorem eqArr (d : Nat) (u v x : Int) (w : World) : (Op.equalIn (d + 2) 61 (.agg #[.int .i64 u, .int .i64 v, .int .i64 x]) (.agg #[.int .i64 u, .int .i64 v, .int .i64 x])).run Try.prog w = .ok true w := by
  have u3 := Try.underlying3
  have a3 := Try.isAgg3
  have z3 := Try.sizeOf3
  rw [show d + 2 = (d + 1) + 1 from rfl, Op.equalIn]
  simp only [Sem.run_bind, run_underlying Try.underlying61, Result.andThen_ok]
  simp only [Std.Legacy.Range.forIn_eq_forIn_range', Std.Legacy.Range.size, Nat.sub_zero, Nat.add_sub_cancel, Nat.div_one, List.range'_succ, List.range'_zero, List.forIn_cons, List.forIn_nil]
  go_simp
theorem eqArr9999 (u v x : Int) (w : World) : (Op.equalIn 9999 61 (.agg #[.int .i64 u, .int .i64 v, .int .i64 x]) (.agg #[.int .i64 u, .int .i64 v, .int .i64 x])).run Try.prog w = .ok true w := eqArr 9997 u v x w
attribute [local go_sem] eqArr9999
theorem wcProgram_same (A A2 : Option Addr) (n c c2 : Nat) (ps : List St) (w : World) (h : Lst w w.heap.size A n ps) (h2 : Lst w w.heap.size A2 n ps) (hn : n ≤ maxLen) :
    Calls Try.prog 14 #[.slice A n c, .slice A2 n c2] w fun e w' => e = .returned (.bool true) ∧ Below w.heap.size w w' := by
  unfold maxLen at hn
  have hH := Lib.hid h
  have hH2 := Lib.hid h2
  clear h h2
  go_enter Try.func14, Try.ntmps14
  go_wp2
  go_loopw [13] (fun i wr => ∃ k : Nat, k ≤ n ∧ i = .int .i64 k ∧ Below w.heap.size w wr) (fun i _ => n - (intOf i).toNat)
  case atStart => exact ⟨0, Nat.zero_le _, rfl, Below.refl _ _⟩
  case round =>
    obtain ⟨k, hk, rfl, hb⟩ := hrel
    by_cases hlt : k < n
    · obtain ⟨g, off, s, rfl, hg, hs, hat⟩ := (hH.out.below hb).at_ hlt
      obtain ⟨g2, off2, s2, rfl, hg2, hs2, hat2⟩ := (hH2.out.below hb).at_ hlt
      obtain rfl : s2 = s := Option.some.inj (hs2.symm.trans hs)
      obtain ⟨c0, c1, c2', c3, c4, c5, c6⟩ := hat.open_
      obtain ⟨d0, d1, d2, d3, d4, d5, d6⟩ := hat2.open_
      clear hs hs2 hat hat2
      have hk0 : (0 : Int) ≤ (k : Int) := Int.natCast_nonneg _
      have hk1 : (k : Int) < (n : Int) := by omega
      go_wp2
      go_still_tail 8, (by kernel_rfl)
      change wpList _ _ _ _ _ wr.drew
      go_wp2
      go_roundw
      case rel => exact ⟨k + 1, by omega, by go_num, hb.drew⟩
      case measure => (simp [intOf]; try omega)
    · go_wp2
      go_ret
      exact ⟨rfl, hb⟩
end Go.Proofs.Ytkggejmamhakaaa

namespace Go.Proofs.Ytkggejmamhakaaa
set_option maxRecDepth 100000
open Go.ChangeShapes Go.WideShapes Go.ChangeAt Go.RowKit Go.Deep
set_option maxRecDepth 100000 in
theorem open_bytes {H : Type} {enc : TypeId × Value → H} {w : World} {b0 : Nat} {r : Reach} {v : Value} {d : DataW H} {p : List MemPlace} (hv : Value.okWide Try.prog w r b0 22 v) (h : DataW.Trod enc Try.prog w 0 (fun _ => true) true 22 v d p) :
    ∃ (A : Option Addr) (n c : Nat), v = .slice A n c ∧ n ≤ c ∧ c ≤ maxLen ∧ Byt w w.heap.size A n := by
  obtain ⟨A, n, c, rfl⟩ := okWide_slice Try.underlying22 hv
  obtain ⟨fuel, hf⟩ := h
  rcases open_ints Try.underlying22 Try.underlying5 (by kernel_rfl) hf with ⟨hcs, _⟩ | ⟨x, l, c', zs, hcs, _, hl, hm, hz, _, hcell, hwz⟩
  · simp [Value.cells] at hcs
    obtain ⟨rfl, rfl, rfl⟩ := hcs
    exact ⟨none, 0, 0, rfl, Nat.le_refl _, by simp [maxLen], fun h => absurd h (by omega)⟩
  · simp [Value.cells] at hcs
    obtain ⟨rfl, rfl, rfl⟩ := hcs
    refine ⟨some x, n, c, rfl, hl, hm, fun hn => ?_⟩
    have hz' : zs.length = c := by simpa using hz
    obtain ⟨g, off, spot⟩ := x
    have h0 := hcell 0 (by omega)
    have hspot : spot = none := by simpa [Addr.add] using World.cell?_spot h0
    subst hspot
    have hlt := World.block_lt_of_cell? w _ h0
    refine ⟨g, off, rfl, by simpa [Addr.add] using hlt, fun i hi => ?_⟩
    have hi' : i < zs.length := by omega
    have hw := hwz (zs.getD i 0) (by rw [List.getD_eq_getElem?_getD, List.getElem?_eq_getElem hi']; exact List.getElem_mem hi')
    have hbd := bounds_u8 hw
    refine ⟨zs.getD i 0, ?_, hbd.1, hbd.2⟩
    rw [← hcell i hi']
    congr 1
    unfold Addr.add
    split
    · (rename_i h0; simp; try omega)
    · (simp; try omega)
end Go.Proofs.Ytkggejmamhakaaa
