/- Parts of the proof: Cc. -/
import Derived.Test.YtkggejmamhakaaaZAQ
import Derived.Test.YtkggejmamhakaaaZAT
namespace Go.Proofs.Ytkggejmamhakaaa
set_option maxRecDepth 100000
set_option linter.unusedVariables false
open Go.RowKit
theorem mayStand_1 (c k : Int) (hc : 0 ≤ c ∧ c ≤ 4) (hk : 0 ≤ k ∧ k ≤ 6) (w : World) :
    Calls Try.prog 77 #[.int .i64 c, .int .i64 k, .int .u8 102] w fun e w' => e = .returned (.bool (may1 c k)) ∧ w = w' := by
  obtain rfl | rfl | rfl | rfl | rfl : c = 0 ∨ c = 1 ∨ c = 2 ∨ c = 3 ∨ c = 4 := by omega
  all_goals
    obtain rfl | rfl | rfl | rfl | rfl | rfl | rfl : k = 0 ∨ k = 1 ∨ k = 2 ∨ k = 3 ∨ k = 4 ∨ k = 5 ∨ k = 6 := by omega
    all_goals
      go_enter Try.func77, Try.ntmps77
      go_wp2
      all_goals first
        | (go_ret; exact ⟨rfl, rfl⟩)
        | (rename_i h; exact absurd h (by decide +revert))
theorem mayStand_2 (c k : Int) (hc : 0 ≤ c ∧ c ≤ 4) (hk : 0 ≤ k ∧ k ≤ 6) (w : World) :
    Calls Try.prog 77 #[.int .i64 c, .int .i64 k, .int .u8 115] w fun e w' => e = .returned (.bool (may2 c k)) ∧ w = w' := by
  obtain rfl | rfl | rfl | rfl | rfl : c = 0 ∨ c = 1 ∨ c = 2 ∨ c = 3 ∨ c = 4 := by omega
  all_goals
    obtain rfl | rfl | rfl | rfl | rfl | rfl | rfl : k = 0 ∨ k = 1 ∨ k = 2 ∨ k = 3 ∨ k = 4 ∨ k = 5 ∨ k = 6 := by omega
    all_goals
      go_enter Try.func77, Try.ntmps77
      go_wp2
      all_goals first
        | (go_ret; exact ⟨rfl, rfl⟩)
        | (rename_i h; exact absurd h (by decide +revert))
end Go.Proofs.Ytkggejmamhakaaa
namespace Go.Proofs.Ytkggejmamhakaaa
set_option maxRecDepth 100000
set_option linter.unusedVariables false
open Go.RowKit
/-- A part of a list reads as a list. -/
theorem Lst.part_ {w : World} {B n k m g off : Nat} {ps : List St} (h : Lst w B (some ⟨g, off, none⟩) n ps) (hn : 0 < n) (hk : k + m ≤ n) : Lst w B (some ⟨g, off + k * 7, none⟩) m ((ps.drop k).take m) := by
  obtain ⟨g', off', e, hg, hc⟩ := h.2 hn
  injection e with e
  injection e with e1 e2 _
  subst e1 e2
  refine ⟨by rw [List.length_take, List.length_drop, h.1]; omega, fun _ => ⟨g, _, rfl, hg, fun i s hs => ?_⟩⟩
  rw [List.getElem?_take] at hs
  split at hs
  · rw [List.getElem?_drop] at hs
    have := hc (k + i) s hs
    rwa [show off + (k + i) * 7 = off + k * 7 + i * 7 by omega] at this
  · cases hs
theorem win_len {ps : List St} {k : Nat} {a : St} (ha : ps[k]? = some a) : (a :: ps[k + 1]?.toList) = (ps.drop k).take 2 := by
  rw [drop_cons ha]
  show _ = a :: (ps.drop (k + 1)).take 1
  cases hb : ps[k + 1]? with
  | none => rw [List.drop_eq_nil_of_le (List.getElem?_eq_none_iff.1 hb)]; rfl
  | some b => rw [drop_cons hb]; rfl
def Wind (w : World) (B : Nat) (a : St) (ob : Option St) (e : Ending) (w' : World) : Prop :=
  ∃ A c, e = .returned (.slice A (1 + ob.toList.length) c) ∧ 1 + ob.toList.length ≤ c ∧ c ≤ maxLen ∧ Lst w B A (1 + ob.toList.length) (a :: ob.toList) ∧ w = w'
theorem windowAt_any (A : Option Addr) (n c k B : Nat) (ps : List St) (a : St) (w : World) (h : Lst w B A n ps) (hn : n ≤ c) (hc : c ≤ maxLen) (ha : ps[k]? = some a) :
    Calls Try.prog 47 #[.slice A n c, .int .i64 (k : Int)] w (Wind w B a ps[k + 1]?) := by
  have hk : k < n := by have := (List.getElem?_eq_some_iff.1 ha).1; have := h.1; omega
  obtain ⟨g, off, _, rfl, hg, _, _⟩ := h.at_ hk
  have hc9 : c ≤ 9223372036854775807 := by unfold maxLen at hc; omega
  have hk0 : (0 : Int) ≤ (k : Int) := by omega
  have hk1 : (k : Int) ≤ (n : Int) := by omega
  have hnc : (n : Int) ≤ (c : Int) := by omega
  by_cases he : k + 1 = n
  · have hb : ps[k + 1]? = none := List.getElem?_eq_none_iff.2 (by have := h.1; omega)
    have hL : Lst w B (some ⟨g, off + k * 7, none⟩) 1 (a :: (none : Option St).toList) := by
      have := h.part_ (k := k) (m := 1) (by omega) (by omega)
      rw [drop_cons ha] at this
      exact this
    have hFin : ∀ c', c' = c - k → Wind w B a none (.returned (.slice (some ⟨g, off + k * 7, none⟩) 1 c')) w := fun c' e => ⟨_, c', rfl, by show 1 ≤ c'; omega, by omega, hL, rfl⟩
    have hLh := Lib.hid hFin
    have hg1 : ((k : Int) + 1 == (n : Int)) = true := by simp; omega
    rw [hb]
    clear h hL ha hb hFin
    subst he
    go_enter Try.func47, Try.ntmps47
    go_wp2_with fail
    go_ret
    have e := hLh.out _ rfl
    rw [show (1 : Nat) = k + 1 - k by omega] at e
    first | exact e | exact hLh.out _ rfl | (simp only [Nat.add_sub_cancel_left] at e ⊢; exact e)
  · obtain ⟨b, hb⟩ : ∃ b, ps[k + 1]? = some b := ⟨_, List.getElem?_eq_getElem (by have := h.1; omega)⟩
    have hL : Lst w B (some ⟨g, off + k * 7, none⟩) 2 (a :: (some b).toList) := by
      have := h.part_ (k := k) (m := 2) (by omega) (by omega)
      rwa [← win_len ha, hb] at this
    have hFin : ∀ c', c' = c - k → Wind w B a (some b) (.returned (.slice (some ⟨g, off + k * 7, none⟩) 2 c')) w := fun c' e => ⟨_, c', rfl, by show 2 ≤ c'; omega, by omega, hL, rfl⟩
    have hLh := Lib.hid hFin
    have hg1 : ((k : Int) + 1 == (n : Int)) = false := by simp; omega
    have hk2 : (k : Int) + 2 ≤ (n : Int) := by omega
    rw [hb]
    clear h hL ha hb hFin
    go_enter Try.func47, Try.ntmps47
    go_wp2_with fail
    go_ret
    have e := hLh.out _ rfl
    rw [show (2 : Nat) = k + 2 - k by omega] at e
    exact e
theorem two_of {w w0 : World} {g h : Nat} {a b : St} (h1 : Has w0 g 63 #[.int .i64 a.k, .int .i64 a.a, .int .i64 a.b, .int .i64 a.c, .int .i64 a.u, .int .i64 a.v, .int .i64 a.x]) (h2 : Has w0 h 63 #[.int .i64 b.k, .int .i64 b.a, .int .i64 b.b, .int .i64 b.c, .int .i64 b.u, .int .i64 b.v, .int .i64 b.x]) (hb : Below w0.heap.size w0 w) :
    Below w0.heap.size w0 w ∧ w.cell? ⟨g, 0, none⟩ = some (.int .i64 a.k) ∧ w.cell? ⟨g, 1, none⟩ = some (.int .i64 a.a) ∧ w.cell? ⟨g, 2, none⟩ = some (.int .i64 a.b) ∧ w.cell? ⟨g, 3, none⟩ = some (.int .i64 a.c) ∧ w.cell? ⟨g, 4, none⟩ = some (.int .i64 a.u) ∧ w.cell? ⟨g, 5, none⟩ = some (.int .i64 a.v) ∧ w.cell? ⟨g, 6, none⟩ = some (.int .i64 a.x) ∧ w.cell? ⟨h, 0, none⟩ = some (.int .i64 b.k) ∧ w.cell? ⟨h, 1, none⟩ = some (.int .i64 b.a) ∧ w.cell? ⟨h, 2, none⟩ = some (.int .i64 b.b) ∧ w.cell? ⟨h, 3, none⟩ = some (.int .i64 b.c) ∧ w.cell? ⟨h, 4, none⟩ = some (.int .i64 b.u) ∧ w.cell? ⟨h, 5, none⟩ = some (.int .i64 b.v) ∧ w.cell? ⟨h, 6, none⟩ = some (.int .i64 b.x) :=
  ⟨hb, (h1.kept hb).cell 0, (h1.kept hb).cell 1, (h1.kept hb).cell 2, (h1.kept hb).cell 3, (h1.kept hb).cell 4, (h1.kept hb).cell 5, (h1.kept hb).cell 6, (h2.kept hb).cell 0, (h2.kept hb).cell 1, (h2.kept hb).cell 2, (h2.kept hb).cell 3, (h2.kept hb).cell 4, (h2.kept hb).cell 5, (h2.kept hb).cell 6⟩
set_option maxHeartbeats 1000000 in
theorem swapFits_any (a b : St) (w : World) :
    Calls Try.prog 82 #[.agg #[.int .i64 a.k, .int .i64 a.a, .int .i64 a.b, .int .i64 a.c, .int .i64 a.u, .int .i64 a.v, .int .i64 a.x], .agg #[.int .i64 b.k, .int .i64 b.a, .int .i64 b.b, .int .i64 b.c, .int .i64 b.u, .int .i64 b.v, .int .i64 b.x]] w fun e w' => e = .returned (.bool (swapOk a b)) ∧ Below w.heap.size w w' := by
  have hDef := Lib.hid (show swapOk a b = ((bits .and .i64 (bitN a.sets) (bits .or .i64 (bitN b.sets) b.reads) == 0) && (bits .and .i64 (bitN b.sets) a.reads == 0)) from rfl)
  have h1 := ((Has.new w 63 #[.int .i64 a.k, .int .i64 a.a, .int .i64 a.b, .int .i64 a.c, .int .i64 a.u, .int .i64 a.v, .int .i64 a.x]).alloc (.cells #[.int .i64 b.k, .int .i64 b.a, .int .i64 b.b, .int .i64 b.c, .int .i64 b.u, .int .i64 b.v, .int .i64 b.x] 63))
  have h2 := (Has.newAt (w := w.alloc (.cells #[.int .i64 a.k, .int .i64 a.a, .int .i64 a.b, .int .i64 a.c, .int .i64 a.u, .int .i64 a.v, .int .i64 a.x] 63)) (n := w.heap.size + 1) (t := 63) (cs := #[.int .i64 b.k, .int .i64 b.a, .int .i64 b.b, .int .i64 b.c, .int .i64 b.u, .int .i64 b.v, .int .i64 b.x]) (by simp))
  have hB : Below w.heap.size w ((w.alloc (.cells #[.int .i64 a.k, .int .i64 a.a, .int .i64 a.b, .int .i64 a.c, .int .i64 a.u, .int .i64 a.v, .int .i64 a.x] 63)).alloc (.cells #[.int .i64 b.k, .int .i64 b.a, .int .i64 b.b, .int .i64 b.c, .int .i64 b.u, .int .i64 b.v, .int .i64 b.x] 63)) := ((Below.refl _ _).alloc (Nat.le_refl _) _).alloc (by simp) _
  have hz : ((w.alloc (.cells #[.int .i64 a.k, .int .i64 a.a, .int .i64 a.b, .int .i64 a.c, .int .i64 a.u, .int .i64 a.v, .int .i64 a.x] 63)).alloc (.cells #[.int .i64 b.k, .int .i64 b.a, .int .i64 b.b, .int .i64 b.c, .int .i64 b.u, .int .i64 b.v, .int .i64 b.x] 63)).heap.size = w.heap.size + 2 := by simp
  go_enter Try.func82, Try.ntmps82
  go_wp2_with fail
  generalize ((w.alloc (.cells #[.int .i64 a.k, .int .i64 a.a, .int .i64 a.b, .int .i64 a.c, .int .i64 a.u, .int .i64 a.v, .int .i64 a.x] 63)).alloc (.cells #[.int .i64 b.k, .int .i64 b.a, .int .i64 b.b, .int .i64 b.c, .int .i64 b.u, .int .i64 b.v, .int .i64 b.x] 63)) = W0 at h1 h2 hB hz ⊢
  have hOk := Lib.hid (fun (wx : World) (h : Below W0.heap.size W0 wx) => two_of h1 h2 h)
  have e1 := h1.cell
  have e2 := h2.cell
  go_region_held3 (fun wx => Below W0.heap.size W0 wx ∧ wx.cell? ⟨w.heap.size, 0, none⟩ = some (.int .i64 a.k) ∧ wx.cell? ⟨w.heap.size, 1, none⟩ = some (.int .i64 a.a) ∧ wx.cell? ⟨w.heap.size, 2, none⟩ = some (.int .i64 a.b) ∧ wx.cell? ⟨w.heap.size, 3, none⟩ = some (.int .i64 a.c) ∧ wx.cell? ⟨w.heap.size, 4, none⟩ = some (.int .i64 a.u) ∧ wx.cell? ⟨w.heap.size, 5, none⟩ = some (.int .i64 a.v) ∧ wx.cell? ⟨w.heap.size, 6, none⟩ = some (.int .i64 a.x) ∧ wx.cell? ⟨w.heap.size + 1, 0, none⟩ = some (.int .i64 b.k) ∧ wx.cell? ⟨w.heap.size + 1, 1, none⟩ = some (.int .i64 b.a) ∧ wx.cell? ⟨w.heap.size + 1, 2, none⟩ = some (.int .i64 b.b) ∧ wx.cell? ⟨w.heap.size + 1, 3, none⟩ = some (.int .i64 b.c) ∧ wx.cell? ⟨w.heap.size + 1, 4, none⟩ = some (.int .i64 b.u) ∧ wx.cell? ⟨w.heap.size + 1, 5, none⟩ = some (.int .i64 b.v) ∧ wx.cell? ⟨w.heap.size + 1, 6, none⟩ = some (.int .i64 b.x)) (first | exact hOk.out _ ((Below.refl _ _).drew) | exact hOk.out _ (bt6 (by assumption) hbq) | exact hOk.out _ (bs6 (by assumption)) | exact hOk.out _ (bd6 (by assumption)) | go_keep) (first | (go_at_call 107; refine (StmtSets_any _ _ _ _ _ _ _ _).mono ?_; rintro e q ⟨rfl, hbq⟩) | (go_at_call 81; refine (bitOf_any _ _).mono ?_; rintro e q2 ⟨rfl, hbe⟩; obtain rfl := hbe))
  rename_i hHeld
  have hb := hHeld.1
  clear hHeld hOk e1 e2
  have hBq := Lib.hid (hB.trans (hb.mono (by omega)))
  have g1 := Lib.hid (h1.kept hb)
  have g2 := Lib.hid (h2.kept hb)
  clear hbq hb h1 h2 hB hz
  have cRa := Lib.hid (fun wx => StmtReads_any a.k a.a a.b a.c a.u a.v a.x wx)
  have cRb := Lib.hid (fun wx => StmtReads_any b.k b.a b.b b.c b.u b.v b.x wx)
  have e1 := g1.out.cell
  have e2 := g2.out.cell
  generalize (St.mk a.k a.a a.b a.c a.u a.v a.x).sets = sa at *
  generalize (St.mk b.k b.a b.b b.c b.u b.v b.x).sets = sb at *
  generalize (St.mk a.k a.a a.b a.c a.u a.v a.x).reads = ra at *
  generalize (St.mk b.k b.a b.b b.c b.u b.v b.x).reads = rb at *
  go_wp2_with fail
  refine (cRb.out _).mono ?_
  rintro e w3 ⟨rfl, hb3⟩
  have hB3 := Lib.hid (hBq.out.trans (hb3.mono hBq.out.size))
  have g3 := Lib.hid (g1.out.kept hb3)
  clear e1 e2 hb3
  have e3 := g3.out.cell
  cases hX : (bits .and .i64 (bitN sa) (bits .or .i64 (bitN sb) rb) == 0)
  · have hR := Lib.hid (show swapOk a b = false by rw [hDef.out, hX]; rfl)
    go_wp2_with fail
    go_ret
    exact ⟨ret_bool hR.out, hB3.out⟩
  · have hR := Lib.hid (show swapOk a b = (bits .and .i64 (bitN sb) ra == 0) by rw [hDef.out, hX]; rfl)
    go_wp2_with fail
    refine (cRa.out _).mono ?_
    rintro e w4 ⟨rfl, hb4⟩
    have hB4 := Lib.hid (hB3.out.trans (hb4.mono hB3.out.size))
    clear hb4
    go_wp2_with fail
    go_ret
    exact ⟨ret_bool hR.out, hB4.out⟩
end Go.Proofs.Ytkggejmamhakaaa
namespace Go.Proofs.Ytkggejmamhakaaa
set_option maxRecDepth 100000
set_option linter.unusedVariables false
open Go.RowKit
/-- A statement's weights read as a list of numbers. -/
theorem wts_ils {w : World} {g : Nat} {s : St} (h : Has w g 63 #[.int .i64 s.k, .int .i64 s.a, .int .i64 s.b, .int .i64 s.c, .int .i64 s.u, .int .i64 s.v, .int .i64 s.x]) : Ils w w.heap.size (some ⟨g, 4, none⟩) 3 [s.u, s.v, s.x] := by
  have hc := h.cell
  refine ⟨rfl, fun _ => ⟨g, 4, rfl, h.lt, fun k d hd => ?_⟩⟩
  have hk : k < 3 := (List.getElem?_eq_some_iff.1 hd).1
  obtain rfl | rfl | rfl : k = 0 ∨ k = 1 ∨ k = 2 := by omega
  · obtain rfl : s.u = d := by simpa using hd
    exact hc 4
  · obtain rfl : s.v = d := by simpa using hd
    exact hc 5
  · obtain rfl : s.x = d := by simpa using hd
    exact hc 6
set_option maxHeartbeats 1000000 in
theorem factorOf_any (s : St) (c : Int) (w : World) (hs : (0 ≤ s.u ∧ s.u ≤ 9) ∧ (0 ≤ s.v ∧ s.v ≤ 9) ∧ (0 ≤ s.x ∧ s.x ≤ 9)) :
    Calls Try.prog 68 #[.int .i64 c, .agg #[.int .i64 s.k, .int .i64 s.a, .int .i64 s.b, .int .i64 s.c, .int .i64 s.u, .int .i64 s.v, .int .i64 s.x]] w fun e w' => e = .returned (.int .i64 (facBy c s)) ∧ Below w.heap.size w w' := by
  have h1 := Has.new w 63 #[.int .i64 s.k, .int .i64 s.a, .int .i64 s.b, .int .i64 s.c, .int .i64 s.u, .int .i64 s.v, .int .i64 s.x]
  have hB : Below w.heap.size w (w.alloc (.cells #[.int .i64 s.k, .int .i64 s.a, .int .i64 s.b, .int .i64 s.c, .int .i64 s.u, .int .i64 s.v, .int .i64 s.x] 63)) := (Below.refl _ _).alloc (Nat.le_refl _) _
  have cD := Lib.hid (fun wx => isDraw_any s wx)
  have hsum : isum [s.u, s.v, s.x] = s.u + s.v + s.x := by simp [isum]; omega
  have cT := Lib.hid (fun wx (hx : Has wx w.heap.size 63 #[.int .i64 s.k, .int .i64 s.a, .int .i64 s.b, .int .i64 s.c, .int .i64 s.u, .int .i64 s.v, .int .i64 s.x]) => tallyOf_any (some ⟨w.heap.size, 4, none⟩) 3 3 [s.u, s.v, s.x] wx (wts_ils hx) (by decide) (by simp; omega) (by rw [hsum]; omega))
  rw [hsum] at cT
  have hcom : gcdF [s.u, s.v, s.x] = com s := rfl
  rw [hcom] at cT
  go_enter Try.func68, Try.ntmps68
  go_wp2_with fail
  generalize w.alloc (.cells #[.int .i64 s.k, .int .i64 s.a, .int .i64 s.b, .int .i64 s.c, .int .i64 s.u, .int .i64 s.v, .int .i64 s.x] 63) = W0 at h1 hB ⊢
  refine (cT.out _ h1).mono ?_
  rintro e w1 ⟨rfl, hb1⟩
  have g1 := Lib.hid (h1.kept hb1)
  have hB1 := Lib.hid (hB.trans (hb1.mono hB.size))
  have hz1 := hb1.size
  clear hb1 hB
  have g2 := Lib.hid ((g1.out.alloc (.cells #[.int .i64 (s.u + s.v + s.x), .int .i64 (com s)] 68)))
  have hB2 := Lib.hid (hB1.out.alloc (Nat.le_trans (Nat.le_of_lt h1.lt) hz1) (.cells #[.int .i64 (s.u + s.v + s.x), .int .i64 (com s)] 68))
  have ht2 := Lib.hid (Has.new w1 68 #[.int .i64 (s.u + s.v + s.x), .int .i64 (com s)])
  clear h1
  have e2 := g2.out.cell
  have t2 := ht2.out.cell
  by_cases h3 : c = 3
  · have hR := Lib.hid (show facBy c s = com s from if_pos h3)
    subst h3
    go_wp2_with fail
    go_ret
    exact ⟨ret_int hR.out, hB2.out⟩
  · by_cases h2 : c = 2
    · have hR := Lib.hid (show facBy c s = if s.draws = true then s.u + s.v + s.x else 1 by unfold facBy; rw [if_neg h3]; simp [h2])
      subst h2
      go_wp2_with fail
      refine (cD.out _).mono ?_
      rintro e w3 ⟨rfl, hb3⟩
      have hB3 := Lib.hid (hB2.out.trans (hb3.mono hB2.out.size))
      have ht3 := Lib.hid (ht2.out.kept hb3)
      clear hb3 t2 e2
      have t3 := ht3.out.cell
      cases hd : s.draws
      · rw [hd] at hR
        go_wp2_with fail
        go_ret
        exact ⟨ret_int hR.out, hB3.out⟩
      · rw [hd] at hR
        go_wp2_with fail
        go_ret
        exact ⟨ret_int hR.out, hB3.out⟩
    · have hR := Lib.hid (show facBy c s = 1 by unfold facBy; rw [if_neg h3, if_neg (fun e => h2 e.1)])
      have g3 : (c == (3 : Int)) = false := by simpa using h3
      have g2' : (c == (2 : Int)) = false := by simpa using h2
      clear h3 h2
      go_wp2_with fail
      go_ret
      exact ⟨ret_int hR.out, hB2.out⟩
end Go.Proofs.Ytkggejmamhakaaa
