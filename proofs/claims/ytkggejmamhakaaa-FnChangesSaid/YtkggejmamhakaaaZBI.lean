/- Parts of the proof: Cw. -/
import Derived.Test.YtkggejmamhakaaaZBG
import Derived.Test.YtkggejmamhakaaaZAK
import Derived.Test.YtkggejmamhakaaaZBH
import Derived.Test.YtkggejmamhakaaaZAS
namespace Go.Proofs.Ytkggejmamhakaaa
set_option maxRecDepth 100000
set_option linter.unusedVariables false
open Go.RowKit
theorem flat_set : ∀ {os : List St} {i r : Nat} {s s' : St} {u : Value}, os[i]? = some s → r < 7 → s'.cells = s.cells.set r u → (flat os).set (i * 7 + r) u = flat (os.set i s')
  | [], i, r, s, s', u, h, _, _ => by simp at h
  | q :: qs, 0, r, s, s', u, h, hr, hc => by
    have hq : q = s := by simpa using h
    subst hq
    show (q.cells ++ flat qs).set (0 * 7 + r) u = s'.cells ++ flat qs
    rw [List.set_append_left _ _ (by show 0 * 7 + r < 7; omega), hc, Nat.zero_mul, Nat.zero_add]
  | q :: qs, i + 1, r, s, s', u, h, hr, hc => by
    show (q.cells ++ flat qs).set ((i + 1) * 7 + r) u = q.cells ++ flat (qs.set i s')
    have hl : q.cells.length = 7 := rfl
    rw [List.set_append_right _ _ (by rw [hl]; omega), hl, show (i + 1) * 7 + r - 7 = i * 7 + r by omega, flat_set (by simpa using h) hr hc]
theorem own_put1 {w : World} {base G n c i r : Nat} {os : List St} {s s' : St} {u : Value} (h : w.ownsRow base 63 7 (.slice (some ⟨G, 0, none⟩) n c) n (flat os)) (hs : os[i]? = some s) (hr : r < 7) (hc : s'.cells = s.cells.set r u) :
    (w.setCell ⟨G, i * 7 + r, none⟩ u).ownsRow base 63 7 (.slice (some ⟨G, 0, none⟩) n c) n (flat (os.set i s')) := by
  have hl : os.length = n := by have := h.1; rw [flat_length] at this; omega
  have hi := (List.getElem?_eq_some_iff.1 hs).1
  rw [← flat_set hs hr hc]
  exact owns_setv h (by omega)
theorem set_at {os : List St} {i : Nat} {s s' : St} (h : os[i]? = some s) : (os.set i s')[i]? = some s' := by
  have hi := (List.getElem?_eq_some_iff.1 h).1
  rw [List.getElem?_set_self hi]
/-- A whole statement stored. -/
theorem own_store {w : World} {base G n c i : Nat} {os : List St} {s b : St} (h : w.ownsRow base 63 7 (.slice (some ⟨G, 0, none⟩) n c) n (flat os)) (hs : os[i]? = some s) :
    (((((((w.setCell ⟨G, i * 7, none⟩ (.int .i64 b.k)).setCell ⟨G, i * 7 + 1, none⟩ (.int .i64 b.a)).setCell ⟨G, i * 7 + 2, none⟩ (.int .i64 b.b)).setCell ⟨G, i * 7 + 3, none⟩ (.int .i64 b.c)).setCell ⟨G, i * 7 + 4, none⟩ (.int .i64 b.u)).setCell ⟨G, i * 7 + 5, none⟩ (.int .i64 b.v)).setCell ⟨G, i * 7 + 6, none⟩ (.int .i64 b.x)).ownsRow base 63 7 (.slice (some ⟨G, 0, none⟩) n c) n (flat (os.set i b)) := by
  have h0 := own_put1 (r := 0) (s' := ⟨b.k, s.a, s.b, s.c, s.u, s.v, s.x⟩) (u := .int .i64 b.k) h hs (by decide) rfl
  have h1 := own_put1 (r := 1) (s' := ⟨b.k, b.a, s.b, s.c, s.u, s.v, s.x⟩) (u := .int .i64 b.a) h0 (set_at hs) (by decide) rfl
  rw [List.set_set] at h1
  have h2 := own_put1 (r := 2) (s' := ⟨b.k, b.a, b.b, s.c, s.u, s.v, s.x⟩) (u := .int .i64 b.b) h1 (set_at hs) (by decide) rfl
  rw [List.set_set] at h2
  have h3 := own_put1 (r := 3) (s' := ⟨b.k, b.a, b.b, b.c, s.u, s.v, s.x⟩) (u := .int .i64 b.c) h2 (set_at hs) (by decide) rfl
  rw [List.set_set] at h3
  have h4 := own_put1 (r := 4) (s' := ⟨b.k, b.a, b.b, b.c, b.u, s.v, s.x⟩) (u := .int .i64 b.u) h3 (set_at hs) (by decide) rfl
  rw [List.set_set] at h4
  have h5 := own_put1 (r := 5) (s' := ⟨b.k, b.a, b.b, b.c, b.u, b.v, s.x⟩) (u := .int .i64 b.v) h4 (set_at hs) (by decide) rfl
  rw [List.set_set] at h5
  have h6 := own_put1 (r := 6) (s' := b) (u := .int .i64 b.x) h5 (set_at hs) (by decide) rfl
  rw [List.set_set] at h6
  exact h6
theorem below_store {B G : Nat} {w0 w : World} {b : St} {o : Nat} (h : Below B w0 w) (hG : B ≤ G) : Below B w0 (((((((w.setCell ⟨G, o, none⟩ (.int .i64 b.k)).setCell ⟨G, o + 1, none⟩ (.int .i64 b.a)).setCell ⟨G, o + 2, none⟩ (.int .i64 b.b)).setCell ⟨G, o + 3, none⟩ (.int .i64 b.c)).setCell ⟨G, o + 4, none⟩ (.int .i64 b.u)).setCell ⟨G, o + 5, none⟩ (.int .i64 b.v)).setCell ⟨G, o + 6, none⟩ (.int .i64 b.x)) :=
  ((((((h.setCell (p := ⟨G, o, none⟩) hG _).setCell (p := ⟨G, o + 1, none⟩) hG _).setCell (p := ⟨G, o + 2, none⟩) hG _).setCell (p := ⟨G, o + 3, none⟩) hG _).setCell (p := ⟨G, o + 4, none⟩) hG _).setCell (p := ⟨G, o + 5, none⟩) hG _).setCell (p := ⟨G, o + 6, none⟩) hG _
theorem l1Copy_lst (g off n c : Nat) (ps : List St) (w : World) (h : Lst w w.heap.size (some ⟨g, off, none⟩) n ps) (h0 : 0 < n) (hn : n ≤ 1000) :
    Calls Try.prog 44 #[.slice (some ⟨g, off, none⟩) n c] w fun e w' => ∃ G c', e = .returned (.slice (some ⟨G, 0, none⟩) n c') ∧ w'.ownsRow w.heap.size 63 7 (.slice (some ⟨G, 0, none⟩) n c') n (flat ps) ∧ w.heap.size ≤ G ∧ n ≤ c' ∧ c' ≤ maxLen ∧ Below w.heap.size w w' := by
  have hL := h.1
  have hsrc : ∀ j u, (flat ps)[j]? = some u → (w.alloc (.cells #[] 63)).cell? ((⟨g, off, none⟩ : Addr).add j) = some u := fun j u hu => by
    have := (h.below ((Below.refl _ _).alloc (Nat.le_refl _) (.cells #[] 63))).part (k := 0) (m := n) h0 (by omega) j u (by rw [List.drop_zero, List.take_of_length_le (by omega)]; exact hu)
    simpa using this
  have hO := Lib.hid hsrc
  have hN := Lib.hid (show (w.alloc (.cells #[] 63)).ownsRow w.heap.size 63 7 (.slice (some ⟨w.heap.size, 0, none⟩) 0 0) 0 [] from
    ⟨rfl, .inr ⟨w.heap.size, 0, #[], rfl, Nat.le_refl _, Has.new w _ _, Nat.le_refl _, Nat.zero_le _, rfl, rfl⟩⟩)
  clear h hsrc
  obtain ⟨i0, hi0, hz0, hz1', hz2'⟩ := info_parts info_stmt
  have hB : Below w.heap.size w (w.alloc (.cells #[] 63)) := (Below.refl _ _).alloc (Nat.le_refl _) _
  go_enter Try.func44, Try.ntmps44
  go_wp2_with (at_builtin; refine wpList_append_own _ rfl (.tmp 5) (.tmp 6) 23 rfl w.heap.size 63 i0 _ 7 56 Try.underlying23 hi0 hz0 hz1' hz2' rfl (by decide) (.slice (some ⟨w.heap.size, 0, none⟩) 0 0) 0 [] rfl (by exact hN.out) ⟨g, off, none⟩ n c (flat ps) rfl (by rw [flat_length, hL]) (by exact hO.out) (flat_one ps) (by unfold maxLen; omega) (by omega) (by simp) ?_; intro v' w4 hown4 hgrow4 hblk)
  have hf0 : w4.ownsRow w.heap.size 63 7 v' n (flat ps) := by simpa using hown4
  have hB4 := Lib.hid (hB.grown hgrow4 (by simp) (fun k hk => by
    have h1 : w.heap.size = k := by simpa [Value.ownBlock] using hk
    omega))
  obtain ⟨A5, c5, hv5, hl5, hm5⟩ := owns_form hf0
  subst hv5
  obtain ⟨G, cur, rfl, hwb, hH, _, _, _, _⟩ := owns_open hf0 h0
  have hf := Lib.hid hf0
  clear hown4 hgrow4 hblk hf0 hH
  go_wp2
  go_ret
  exact ⟨G, c5, by simp, hf.out, hwb, hl5, hm5, hB4.out⟩
end Go.Proofs.Ytkggejmamhakaaa
namespace Go.Proofs.Ytkggejmamhakaaa
set_option maxRecDepth 100000
set_option linter.unusedVariables false
open Go.RowKit
def OwndM (w : World) (os : List St) (e : Ending) (w' : World) : Prop := ∃ v, e = .returned v ∧ Own w' w.heap.size v os ∧ Below w.heap.size w w'
theorem own_at {w : World} {base G n c i : Nat} {os : List St} {s : St} (h : w.ownsRow base 63 7 (.slice (some ⟨G, 0, none⟩) n c) n (flat os)) (hs : os[i]? = some s) :
    w.cell? ⟨G, i * 7, none⟩ = some (.int .i64 s.k) ∧ w.cell? ⟨G, i * 7 + 1, none⟩ = some (.int .i64 s.a) ∧ w.cell? ⟨G, i * 7 + 2, none⟩ = some (.int .i64 s.b) ∧ w.cell? ⟨G, i * 7 + 3, none⟩ = some (.int .i64 s.c) ∧ w.cell? ⟨G, i * 7 + 4, none⟩ = some (.int .i64 s.u) ∧ w.cell? ⟨G, i * 7 + 5, none⟩ = some (.int .i64 s.v) ∧ w.cell? ⟨G, i * 7 + 6, none⟩ = some (.int .i64 s.x) ∧ ∀ j, w.frozen? ⟨G, j, none⟩ = false := by
  have hl : os.length = n := by have := h.1; rw [flat_length] at this; omega
  have hi := (List.getElem?_eq_some_iff.1 hs).1
  have hO : Own w base (.slice (some ⟨G, 0, none⟩) n c) os := by unfold Own; rw [hl]; exact h
  obtain ⟨g, off, e, hg, hc⟩ := hO.lst.2 (by omega)
  injection e with e
  injection e with e1 e2 _
  subst e1 e2
  obtain ⟨x0, x1, x2, x3, x4, x5, x6⟩ := (hc i s hs).open_
  rw [Nat.zero_add] at x0 x1 x2 x3 x4 x5 x6
  rcases h.2 with ⟨hv, _⟩ | ⟨g', cap', cur, hv, _, hh, _⟩
  · cases hv
  · have e1 : G = g' := by injection hv with hv _ _; injection hv with hv; injection hv
    subst e1
    exact ⟨x0, x1, x2, x3, x4, x5, x6, (show Has w G 63 cur from hh).frozen⟩
theorem ownM {w w' : World} {v : Value} {n : Nat} {os : List St} (h : w'.ownsRow w.heap.size 63 7 v n (flat os)) (hb : Below w.heap.size w w') : OwndM w os (.returned v) w' := by
  have hl : os.length = n := by have := h.1; rw [flat_length] at this; omega
  exact ⟨v, rfl, by unfold Own; rw [hl]; exact h, hb⟩
theorem done_0 {ps : List St} {k : Nat} {a b : St} (ha : ps[k]? = some a) (hb : ps[k + 1]? = some b) : chDone 0 ps k = (ps.set k b).set (k + 1) a := by
  rw [done_eq ha, hb]
  have h1 := split_at ha
  rw [hb] at h1
  have hl : (ps.take k).length = k := by rw [List.length_take]; have := (List.getElem?_eq_some_iff.1 ha).1; omega
  show ps.take k ++ [b, a] ++ ps.drop (k + 2) = _
  conv => rhs; rw [h1]
  rw [List.append_assoc, List.append_assoc, List.set_append_right _ _ (by omega), hl, Nat.sub_self]
  show _ = (ps.take k ++ (b :: b :: ps.drop (k + 2))).set (k + 1) a
  rw [List.set_append_right _ _ (by omega), hl, show k + 1 - k = 1 by omega]
  rfl
set_option maxHeartbeats 2000000 in
theorem l6Do_0 (g off n cap k : Nat) (ps : List St) (a b : St) (w : World) (h : Lst w w.heap.size (some ⟨g, off, none⟩) n ps) (hn : n ≤ 10) (ha : ps[k]? = some a) (hb : ps[k + 1]? = some b) (hoa : a.ok = true ∧ a.k < 6) (hob : b.ok = true ∧ b.k < 6) (hf : fits 0 a (some b) = true) :
    Calls Try.prog 58 #[.slice (some ⟨g, off, none⟩) n cap, .int .i64 0, .int .i64 (k : Int)] w (OwndM w (chDone 0 ps k)) := by
  have hL := h.1
  have hk1 : k + 1 < n := by have := (List.getElem?_eq_some_iff.1 hb).1; omega
  have cC := Lib.hid (l1Copy_lst g off n cap ps w h (by omega) (by omega))
  have hH := Lib.hid h
  have ka : ∀ wx, Below w.heap.size w wx → StAt wx g (off + k * 7) a ∧ StAt wx g (off + (k + 1) * 7) b := fun wx hx => by
    obtain ⟨g', off', e, hg, hc⟩ := (hH.out.below hx).2 (by omega)
    injection e with e
    injection e with e1 e2 _
    subst e1 e2
    exact ⟨hc k a ha, hc (k + 1) b hb⟩
  have hK := Lib.hid ka
  have i0 : (0 : Int) ≤ (k : Int) := by omega
  have i1 : (k : Int) < (n : Int) := by omega
  have i2 : (k : Int) + 1 < (n : Int) := by omega
  have hA := Lib.hid ha
  have hBs := Lib.hid hb
  have hR := Lib.hid (done_0 ha hb)
  clear h ka ha hb hf
  go_enter Try.func58, Try.ntmps58
  go_wp2_with fail
  refine cC.out.mono ?_
  rintro e w1 ⟨G, c1, rfl, ho, hG, hc1, hcm1, hb1⟩
  obtain ⟨x0, x1, x2, x3, x4, x5, x6, xf⟩ := own_at ho hA.out
  obtain ⟨p0, p1, p2, p3, p4, p5, p6⟩ := (hK.out _ hb1).1.open_
  obtain ⟨q0, q1, q2, q3, q4, q5, q6⟩ := (hK.out _ hb1).2.open_
  have ho2 := Lib.hid (own_store (b := b) ho hA.out)
  have hb2 := Lib.hid (below_store (b := b) (o := k * 7) hb1 hG)
  have hGh := Lib.hid hG
  clear ho hb1 hG
  go_upto_region 11 with (fail)
  generalize (((((((w1.setCell ⟨G, k * 7, none⟩ (.int .i64 b.k)).setCell ⟨G, k * 7 + 1, none⟩ (.int .i64 b.a)).setCell ⟨G, k * 7 + 2, none⟩ (.int .i64 b.b)).setCell ⟨G, k * 7 + 3, none⟩ (.int .i64 b.c)).setCell ⟨G, k * 7 + 4, none⟩ (.int .i64 b.u)).setCell ⟨G, k * 7 + 5, none⟩ (.int .i64 b.v)).setCell ⟨G, k * 7 + 6, none⟩ (.int .i64 b.x)) = W2 at ho2 hb2 ⊢
  have hs2 : (ps.set k b)[k + 1]? = some b := by rw [List.getElem?_set_ne (by omega)]; exact hBs.out
  obtain ⟨y0, y1, y2, y3, y4, y5, y6, yf⟩ := own_at ho2.out hs2
  clear x0 x1 x2 x3 x4 x5 x6 xf p0 p1 p2 p3 p4 p5 p6 q0 q1 q2 q3 q4 q5 q6
  obtain ⟨p0, p1, p2, p3, p4, p5, p6⟩ := (hK.out _ hb2.out).1.open_
  have ho3 := Lib.hid (own_store (b := a) ho2.out hs2)
  have hb3 := Lib.hid (below_store (b := a) (o := (k + 1) * 7) hb2.out hGh.out)
  go_upto_region 12 with (fail)
  generalize (((((((W2.setCell ⟨G, (k + 1) * 7, none⟩ (.int .i64 a.k)).setCell ⟨G, (k + 1) * 7 + 1, none⟩ (.int .i64 a.a)).setCell ⟨G, (k + 1) * 7 + 2, none⟩ (.int .i64 a.b)).setCell ⟨G, (k + 1) * 7 + 3, none⟩ (.int .i64 a.c)).setCell ⟨G, (k + 1) * 7 + 4, none⟩ (.int .i64 a.u)).setCell ⟨G, (k + 1) * 7 + 5, none⟩ (.int .i64 a.v)).setCell ⟨G, (k + 1) * 7 + 6, none⟩ (.int .i64 a.x)) = W3 at ho3 hb3 ⊢
  clear y0 y1 y2 y3 y4 y5 y6 yf p0 p1 p2 p3 p4 p5 p6
  go_wp2_with fail
  go_ret
  rw [hR.out]
  exact ownM ho3.out hb3.out
end Go.Proofs.Ytkggejmamhakaaa
namespace Go.Proofs.Ytkggejmamhakaaa
set_option maxRecDepth 100000
set_option linter.unusedVariables false
open Go.RowKit
theorem flat_take : ∀ (os : List St) (k : Nat), (flat os).take (k * 7) = flat (os.take k)
  | [], k => by simp [flat]
  | s :: r, 0 => by simp [flat]
  | s :: r, k + 1 => by
    show (s.cells ++ flat r).take ((k + 1) * 7) = s.cells ++ flat (r.take k)
    have hl : s.cells.length = 7 := rfl
    rw [List.take_append, List.take_of_length_le (by rw [hl]; omega), hl, show (k + 1) * 7 - 7 = k * 7 by omega, flat_take r k]
theorem own_head {w : World} {base G n c k : Nat} {os : List St} (h : w.ownsRow base 63 7 (.slice (some ⟨G, 0, none⟩) n c) n (flat os)) (hk : k ≤ n) : w.ownsRow base 63 7 (.slice (some ⟨G, 0, none⟩) k c) k (flat (os.take k)) := by
  have hl : os.length = n := by have := h.1; rw [flat_length] at this; omega
  refine ⟨by rw [flat_length, List.length_take]; omega, ?_⟩
  rcases h.2 with ⟨hv, _⟩ | ⟨b, cap, cur, hv, hg, hh, h1, h2, h3, h4⟩
  · cases hv
  · injection hv with e1 _ e3
    subst e3
    refine .inr ⟨b, c, cur, by rw [e1], hg, hh, by omega, h2, h3, ?_⟩
    rw [← flat_take, ← h4, List.take_take, Nat.min_eq_left (by omega)]
theorem own_tail {w : World} {base G n c k : Nat} {os : List St} (h : w.ownsRow base 63 7 (.slice (some ⟨G, 0, none⟩) n c) n (flat os)) (hk : k < n) : ∀ j u, (flat (os.drop k))[j]? = some u → w.cell? ((⟨G, k * 7, none⟩ : Addr).add j) = some u := by
  have hl : os.length = n := by have := h.1; rw [flat_length] at this; omega
  have hO : Own w base (.slice (some ⟨G, 0, none⟩) n c) os := by unfold Own; rw [hl]; exact h
  intro j u hu
  have := hO.lst.part (k := k) (m := n - k) (by omega) (by omega) j u (by rw [List.take_of_length_le (by rw [List.length_drop]; omega)]; exact hu)
  rwa [Nat.zero_add] at this
theorem done_2 {ps : List St} {k : Nat} {a b : St} (ha : ps[k]? = some a) (hb : ps[k + 1]? = some b) : chDone 2 ps k = ps.take k ++ ps.drop (k + 1) := by
  rw [done_eq ha, hb, drop_cons hb]
  show ps.take k ++ [b] ++ ps.drop (k + 2) = _
  simp
theorem done_1 {ps : List St} {k : Nat} {a b : St} (ha : ps[k]? = some a) (hb : ps[k + 1]? = some b) : chDone 1 ps k = (ps.set k (folded a b)).take (k + 1) ++ (ps.set k (folded a b)).drop (k + 2) := by
  have hk := (List.getElem?_eq_some_iff.1 ha).1
  rw [done_eq ha, hb]
  show ps.take k ++ [folded a b] ++ ps.drop (k + 2) = _
  rw [List.take_add_one, List.getElem?_set_self hk, List.take_set_of_le (by omega), List.drop_set_of_lt (by omega)]
  rfl
theorem done_4 {ps : List St} {k : Nat} {a b : St} (ha : ps[k]? = some a) (hb : ps[k + 1]? = some b) : chDone 4 ps k = ps.set (k + 1) (moved b a.c) := by
  rw [done_eq ha, hb]
  have h1 := split_at ha
  rw [hb] at h1
  have hl : (ps.take k).length = k := by rw [List.length_take]; have := (List.getElem?_eq_some_iff.1 ha).1; omega
  show ps.take k ++ [a, moved b a.c] ++ ps.drop (k + 2) = _
  conv => rhs; rw [h1]
  rw [List.append_assoc, List.append_assoc, List.set_append_right _ _ (by omega), hl, show k + 1 - k = 1 by omega]
  rfl
theorem done_3 {ps : List St} {k : Nat} {a : St} (ha : ps[k]? = some a) : chDone 3 ps k = ps.set k (scaled a) := by
  rw [done_eq ha]
  have h1 := split_at ha
  have hl : (ps.take k).length = k := by rw [List.length_take]; have := (List.getElem?_eq_some_iff.1 ha).1; omega
  have e : chg 3 a ps[k + 1]? = scaled a :: ps[k + 1]?.toList := by cases ps[k + 1]? <;> rfl
  rw [e]
  conv => rhs; rw [h1]
  rw [List.append_assoc, List.append_assoc, List.set_append_right _ _ (by omega), hl, Nat.sub_self]
  rfl
theorem app_own {w w' : World} {base n m : Nat} {v v' : Value} {a b : List St} {w0 : World} (h : w'.ownsRow base 63 7 v' (n + m) (flat a ++ flat b)) (hn : n + m = (a ++ b).length) (hg : w.grownBy w' v.ownBlock) (hown : w.ownsRow base 63 7 v n (flat a)) (hb : Below base w0 w) (hB : base ≤ w.heap.size) : Own w' base v' (a ++ b) ∧ Below base w0 w' := by
  refine ⟨?_, hb.grown hg hB fun k hk => ((World.ownsRow.lt hown) k hk).1⟩
  unfold Own
  rw [← hn, flat_append]
  exact h
set_option maxHeartbeats 2000000 in
theorem l6Do_2 (g off n cap k : Nat) (ps : List St) (a b : St) (w : World) (h : Lst w w.heap.size (some ⟨g, off, none⟩) n ps) (hn : n ≤ 10) (ha : ps[k]? = some a) (hb : ps[k + 1]? = some b) (hoa : a.ok = true ∧ a.k < 6) (hob : b.ok = true ∧ b.k < 6) (hf : fits 2 a (some b) = true) :
    Calls Try.prog 58 #[.slice (some ⟨g, off, none⟩) n cap, .int .i64 2, .int .i64 (k : Int)] w (OwndM w (chDone 2 ps k)) := by
  have hL := h.1
  have hk1 : k + 1 < n := by have := (List.getElem?_eq_some_iff.1 hb).1; omega
  have cC := Lib.hid (l1Copy_lst g off n cap ps w h (by omega) (by omega))
  have hH := Lib.hid h
  have ka : ∀ wx, Below w.heap.size w wx → StAt wx g (off + k * 7) a ∧ StAt wx g (off + (k + 1) * 7) b := fun wx hx => by
    obtain ⟨g', off', e, hg, hc⟩ := (hH.out.below hx).2 (by omega)
    injection e with e
    injection e with e1 e2 _
    subst e1 e2
    exact ⟨hc k a ha, hc (k + 1) b hb⟩
  have hK := Lib.hid ka
  have i0 : (0 : Int) ≤ (k : Int) := by omega
  have i1 : (k : Int) < (n : Int) := by omega
  have i2 : (k : Int) + 1 < (n : Int) := by omega
  have hA := Lib.hid ha
  have hBs := Lib.hid hb
  have hR := Lib.hid (done_2 ha hb)
  clear h ka ha hb hf
  obtain ⟨i0', hi0, hz0, hz1', hz2'⟩ := info_parts info_stmt
  go_enter Try.func58, Try.ntmps58
  go_wp2_with fail
  refine cC.out.mono ?_
  rintro e w1 ⟨G, c1, rfl, ho, hG, hc1, hcm1, hb1⟩
  have ho' := Lib.hid ho
  have hb1' := Lib.hid hb1
  have hc1n : ¬ c1 = k + 1 := by omega
  have j1 : (n : Int) ≤ (c1 : Int) := by omega
  have j2 : (k : Int) ≤ (c1 : Int) := by omega
  have j3 : (k : Int) ≤ (n : Int) := by omega
  have j4 : (k : Int) + 1 ≤ (n : Int) := by omega
  have j5 : (k : Int) + 1 ≤ (c1 : Int) := by omega
  have j6 : (0 : Int) ≤ (k : Int) + 1 := by omega
  have jt : ((k : Int) + 1).toNat = k + 1 := by omega
  have jw : IntKind.i64.wrap ((k : Int) + 1) = (k : Int) + 1 := IntWalk.i64_in _ (by unfold maxLen at hcm1; omega)
  have htk : (ps.take k).length = k := by rw [List.length_take]; omega
  have hdk : (ps.drop (k + 1)).length = n - (k + 1) := by rw [List.length_drop]; omega
  clear ho hb1
  go_wp2_with fail
  go_still_tail 7, (by kernel_rfl)
  repeat still_step
  try (refine wpStill_nil ?_)
  try (change wpList _ _ _ _ _ (World.drew _))
  have ho3 : w1.drew.ownsRow w.heap.size 63 7 (.slice (some ⟨G, 0, none⟩) n c1) n (flat ps) := ho'.out
  go_wp2_with (at_builtin; refine wpList_append_own _ rfl (.tmp 132) (.tmp 136) 23 rfl w.heap.size 63 i0' _ 7 56 Try.underlying23 hi0 hz0 hz1' hz2' rfl (by decide) (.slice (some ⟨G, 0, none⟩) k c1) k (flat (ps.take k)) rfl (by exact own_head ho3 (by omega)) ⟨G, (k + 1) * 7, none⟩ (n - (k + 1)) (c1 - (k + 1)) (flat (ps.drop (k + 1))) (by first | rfl | (simp [Act.eval]; try omega)) (by rw [flat_length, hdk]) (by exact own_tail ho3 hk1) (flat_one _) (by unfold maxLen; omega) (by omega) (by exact hb1'.out.size) ?_; intro v5 w5 hown5 hgrow5 _)
  have hX := app_own hown5 (by rw [List.length_append, htk, hdk]) hgrow5 (own_head ho3 (show k ≤ n by omega)) hb1'.out.drew hb1'.out.size
  obtain ⟨A5, c5, hv5, _, _⟩ := owns_form hown5
  subst hv5
  have hE := Lib.hid (show OwndM w (chDone 2 ps k) (.returned (.slice A5 (k + (n - (k + 1))) c5)) w5 from by rw [hR.out]; exact ⟨_, rfl, hX.1, hX.2⟩)
  clear hown5 hgrow5 hX ho3
  go_wp2_with fail
  go_ret
  exact hE.out
end Go.Proofs.Ytkggejmamhakaaa
namespace Go.Proofs.Ytkggejmamhakaaa
set_option maxRecDepth 100000
set_option linter.unusedVariables false
open Go.RowKit
theorem set_same {os : List St} {k : Nat} {s : St} (h : os[k]? = some s) : os.set k s = os := by
  obtain ⟨hk, he⟩ := List.getElem?_eq_some_iff.1 h
  rw [← he]
  exact List.set_getElem_self hk
theorem owns_keep7 {w w' : World} {base n : Nat} {v : Value} {xs : List Value} (h : w.ownsRow base 63 7 v n xs) (hb : Below w.heap.size w w') : w'.ownsRow base 63 7 v n xs := owns_but h (KeptBut.of_below hb (fun _ => False)) (fun _ _ h => h)
/-- The first m weights divided. -/
def partW (a : St) (p q r : Int) : Nat → St
  | 0 => a
  | 1 => ⟨a.k, a.a, a.b, a.c, p, a.v, a.x⟩
  | 2 => ⟨a.k, a.a, a.b, a.c, p, q, a.x⟩
  | _ => ⟨a.k, a.a, a.b, a.c, p, q, r⟩
set_option maxHeartbeats 2000000 in
theorem l6Do_3 (g off n cap k : Nat) (ps : List St) (a : St) (w : World) (h : Lst w w.heap.size (some ⟨g, off, none⟩) n ps) (hn : n ≤ 10) (ha : ps[k]? = some a) (hoa : a.ok = true ∧ a.k < 6) (hf : fits 3 a ps[k + 1]? = true) :
    Calls Try.prog 58 #[.slice (some ⟨g, off, none⟩) n cap, .int .i64 3, .int .i64 (k : Int)] w (OwndM w (chDone 3 ps k)) := by
  have hL := h.1
  have hk1 : k < n := by have := (List.getElem?_eq_some_iff.1 ha).1; omega
  have cC := Lib.hid (l1Copy_lst g off n cap ps w h (by omega) (by omega))
  have hH := Lib.hid h
  have ka : ∀ wx, Below w.heap.size w wx → StAt wx g (off + k * 7) a := fun wx hx => by
    obtain ⟨g', off', e, hg, hc⟩ := (hH.out.below hx).2 (by omega)
    injection e with e
    injection e with e1 e2 _
    subst e1 e2
    exact hc k a ha
  have hK := Lib.hid ka
  have i0 : (0 : Int) ≤ (k : Int) := by omega
  have i1 : (k : Int) < (n : Int) := by omega
  have hA := Lib.hid ha
  have hR := Lib.hid (done_3 ha)
  obtain ⟨h2, _, h1c⟩ := fits_3 hf
  obtain ⟨x1, x2, x3, hw⟩ := scaled_w hoa.1 hoa.2 h2
  have hws := ok_w hoa.1 hoa.2
  have hcb := com_bd hoa.1 hoa.2
  have hww := wOk_iff.1 hw
  have cG := Lib.hid (fun wx => l6Common_any a.u a.v a.x wx (by omega) (by omega) (by omega))
  rw [← com_three hoa.1 hoa.2] at cG
  have t1 : a.u.tdiv (com a) = a.u / com a := Int.tdiv_eq_ediv_of_nonneg (by omega)
  have t2 : a.v.tdiv (com a) = a.v / com a := Int.tdiv_eq_ediv_of_nonneg (by omega)
  have t3 : a.x.tdiv (com a) = a.x / com a := Int.tdiv_eq_ediv_of_nonneg (by omega)
  have v1 : wrap64 (a.u / com a) = a.u / com a := w64 (by omega)
  have v2 : wrap64 (a.v / com a) = a.v / com a := w64 (by omega)
  have v3 : wrap64 (a.x / com a) = a.x / com a := w64 (by omega)
  have hc0 : com a ≠ 0 := by omega
  have hPt := Lib.hid (show ps.set k (scaled a) = ps.set k (partW a (a.u / com a) (a.v / com a) (a.x / com a) 3) from rfl)
  have hP0 := Lib.hid (set_same ha)
  clear h ka ha hf h2 h1c x1 x2 x3 hw hws hcb hww
  generalize a.u / com a = p at *
  generalize a.v / com a = q at *
  generalize a.x / com a = r at *
  generalize com a = gc at *
  go_enter Try.func58, Try.ntmps58
  go_wp2_with fail
  refine cC.out.mono ?_
  rintro e w1 ⟨G, c1, rfl, ho, hG, hc1, hcm1, hb1⟩
  have ho' := Lib.hid ho
  have hb1' := Lib.hid hb1
  obtain ⟨p0, p1, p2, p3, p4, p5, p6⟩ := (hK.out _ hb1).open_
  have j1 : (n : Int) ≤ (c1 : Int) := by omega
  clear ho hb1
  go_wp2_with fail
  refine (cG.out _).mono ?_
  rintro e w2 ⟨rfl, hb2⟩
  have ho2 := Lib.hid (owns_keep7 ho'.out hb2)
  have hb2' := Lib.hid (hb1'.out.trans (hb2.mono hb1'.out.size))
  clear p0 p1 p2 p3 p4 p5 p6 hb2
  go_wp2_with fail
  go_loopg [9] 3 (fun gn i wr => ∃ m : Nat, m ≤ 3 ∧ gn = 3 - m ∧ i = .int .i64 (m : Int) ∧ wr.ownsRow w.heap.size 63 7 (.slice (some ⟨G, 0, none⟩) n c1) n (flat (ps.set k (partW a p q r m))) ∧ Below w.heap.size w wr)
  case atStart => exact ⟨0, by decide, rfl, rfl, by show w2.ownsRow _ _ _ _ _ (flat (ps.set k a)); rw [hP0.out]; exact ho2.out, hb2'.out⟩
  case round =>
    obtain ⟨m, hm3, hgn, rfl, hO, hb⟩ := hrel
    have hgk : gk = 3 - m := hgn
    have hOh := Lib.hid hO
    have hbh := Lib.hid hb
    clear hgn hO hb
    obtain rfl | rfl | rfl | rfl : m = 0 ∨ m = 1 ∨ m = 2 ∨ m = 3 := by omega
    · obtain ⟨p0, p1, p2, p3, p4, p5, p6⟩ := (hK.out _ hbh.out).open_
      obtain ⟨y0, y1, y2, y3, y4, y5, y6, yf⟩ := own_at hOh.out (set_at hA.out)
      have hN := Lib.hid (own_put1 (r := 4) (s' := partW a p q r 1) (u := .int .i64 p) hOh.out (set_at hA.out) (by decide) rfl)
      rw [List.set_set] at hN
      have hNb := Lib.hid (hbh.out.setCell (p := ⟨G, k * 7 + 4, none⟩) hG (.int .i64 p))
      go_wp2_with fail
      go_still_tail 15, (by kernel_rfl)
      repeat still_step
      try (refine wpStill_nil ?_)
      try (change wpList _ _ _ _ _ (World.drew _))
      go_wp2_with fail
      go_roundg (3 - 1)
      case measure => omega
      case rel => exact ⟨1, by decide, rfl, rfl, by first | exact hN.out | (simpa [t1, v1] using hN.out), by first | exact hNb.out.drew | exact hNb.out | (simpa [t1, v1] using hNb.out)⟩
    · obtain ⟨p0, p1, p2, p3, p4, p5, p6⟩ := (hK.out _ hbh.out).open_
      obtain ⟨y0, y1, y2, y3, y4, y5, y6, yf⟩ := own_at hOh.out (set_at hA.out)
      have hN := Lib.hid (own_put1 (r := 5) (s' := partW a p q r 2) (u := .int .i64 q) hOh.out (set_at hA.out) (by decide) rfl)
      rw [List.set_set] at hN
      have hNb := Lib.hid (hbh.out.setCell (p := ⟨G, k * 7 + 5, none⟩) hG (.int .i64 q))
      go_wp2_with fail
      go_still_tail 15, (by kernel_rfl)
      repeat still_step
      try (refine wpStill_nil ?_)
      try (change wpList _ _ _ _ _ (World.drew _))
      go_wp2_with fail
      go_roundg (3 - 2)
      case measure => omega
      case rel => exact ⟨2, by decide, rfl, rfl, by first | exact hN.out | (simpa [t2, v2] using hN.out), by first | exact hNb.out.drew | exact hNb.out | (simpa [t2, v2] using hNb.out)⟩
    · obtain ⟨p0, p1, p2, p3, p4, p5, p6⟩ := (hK.out _ hbh.out).open_
      obtain ⟨y0, y1, y2, y3, y4, y5, y6, yf⟩ := own_at hOh.out (set_at hA.out)
      have hN := Lib.hid (own_put1 (r := 6) (s' := partW a p q r 3) (u := .int .i64 r) hOh.out (set_at hA.out) (by decide) rfl)
      rw [List.set_set] at hN
      have hNb := Lib.hid (hbh.out.setCell (p := ⟨G, k * 7 + 6, none⟩) hG (.int .i64 r))
      go_wp2_with fail
      go_still_tail 15, (by kernel_rfl)
      repeat still_step
      try (refine wpStill_nil ?_)
      try (change wpList _ _ _ _ _ (World.drew _))
      go_wp2_with fail
      go_roundg (3 - 3)
      case measure => omega
      case rel => exact ⟨3, by decide, rfl, rfl, by first | exact hN.out | (simpa [t3, v3] using hN.out), by first | exact hNb.out.drew | exact hNb.out | (simpa [t3, v3] using hNb.out)⟩
    · go_wp2_with fail
      go_ret
      rw [hR.out, hPt.out]
      exact ownM hOh.out hbh.out
end Go.Proofs.Ytkggejmamhakaaa
