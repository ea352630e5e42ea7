/- Rows of weights with their slopes, in memory; a statement done in one state: the program's stepIn. -/
import Derived.Test.YtbndonfpdioibaaSi
import Derived.Test.YtbndonfpdioibaaSb
namespace Go.Proofs.Ytbndonfpdioibaa
set_option maxRecDepth 100000
set_option linter.unusedVariables false
open Go.RowKit

theorem ent_toM {m : Nat} {rs : List (List Int)} {r : Rn} (h : Rk m rs) (hs : 0 ≤ r.st ∧ r.st ≤ 80) (j k : Nat) : ent (toM m rs r) j k = if j = min r.pos m ∧ k = r.st.toNat then ent rs (min r.pos m) r.st.toNat + r.wt else ent rs j k :=
  ent_add h (Nat.min_le_right _ _) (by omega) j k
/-- What one part adds to the slopes. -/
theorem ent_gAdd {m : Nat} {s : St} {c : Int} {here : Bool} {n : Int} {gs : List (List Int)} {r : Rn} (h : Rk m gs) (hs : 0 ≤ r.st ∧ r.st ≤ 80) (hw : 0 ≤ r.wt) (hn : 0 ≤ n) (j k : Nat) :
    ent (gAdd m s c here n gs r) j k = if j = min r.pos m ∧ k = r.st.toNat then ent gs (min r.pos m) r.st.toNat + (r.wt + n * sl1 s here c r.st) else ent gs j k := by
  unfold gAdd sl1
  by_cases hh : (here && decide (s.uses r.st = c)) = true
  · rw [if_pos hh, if_pos hh, ent_toM (r := ⟨r.pos, r.st, n⟩) (toM_ok h hs hw) hs, ent_toM h hs, ent_toM h hs]
    dsimp only
    by_cases q : j = min r.pos m ∧ k = r.st.toNat
    · rw [if_pos q, if_pos (And.intro rfl rfl), if_pos q]
      omega
    · rw [if_neg q, if_neg q, if_neg q]
  · rw [if_neg hh, if_neg hh, ent_toM h hs]
    split <;> simp
/-- The cells of rows of weights and slopes. -/
def SlA (cs : Array Value) (m : Nat) (ns gs : List (List Int)) : Prop := cs.size = (m + 1) * 162 ∧ ∀ i z : Nat, i ≤ m → z < 81 → cs[i * 162 + z * 2]? = some (.int .i64 (ent ns i z)) ∧ cs[i * 162 + z * 2 + 1]? = some (.int .i64 (ent gs i z))
theorem SlA.put {cs : Array Value} {m j y : Nat} {ns gs ns' gs' : List (List Int)} {X Y : Int} (h : SlA cs m ns gs) (hj : j ≤ m) (hy : y < 81) (h1 : ∀ i z : Nat, ent ns' i z = if i = j ∧ z = y then X else ent ns i z) (h2 : ∀ i z : Nat, ent gs' i z = if i = j ∧ z = y then Y else ent gs i z) :
    SlA ((cs.setIfInBounds (j * 162 + y * 2) (.int .i64 X)).setIfInBounds (j * 162 + y * 2 + 1) (.int .i64 Y)) m ns' gs' := by
  have hl := h.1
  refine ⟨by simpa using hl, fun i z hi hz => ?_⟩
  have e0 := h1 i z
  have e1 := h2 i z
  by_cases q : i = j ∧ z = y
  · obtain ⟨rfl, rfl⟩ := q
    rw [if_pos (And.intro rfl rfl)] at e0 e1
    rw [e0, e1]
    refine ⟨?_, ?_⟩
    · rw [Array.getElem?_setIfInBounds, if_neg (by omega), Array.getElem?_setIfInBounds, if_pos rfl, if_pos (by omega)]
    · rw [Array.getElem?_setIfInBounds, if_pos rfl, if_pos (by simp; omega)]
  · rw [if_neg q] at e0 e1
    rw [e0, e1]
    have ne : ¬ (j * 162 + y * 2 = i * 162 + z * 2) := fun e => q ⟨by omega, by omega⟩
    refine ⟨?_, ?_⟩
    · rw [Array.getElem?_setIfInBounds, if_neg (by omega), Array.getElem?_setIfInBounds, if_neg ne]
      exact (h.2 i z hi hz).1
    · rw [Array.getElem?_setIfInBounds, if_neg (by omega), Array.getElem?_setIfInBounds, if_neg (by omega)]
      exact (h.2 i z hi hz).2
theorem Clh.but {w w' : World} {base g m c a gR : Nat} {A : Option Addr} {os : List St} {v : Int} {cs : Array Value} (h : Clh w base g m A c os a v gR) (hk : KeptBut w w' (fun k => k = gR)) (hC : Has w gR 88 cs) (hb : base ≤ gR) : Clh w' base g m A c os a v gR :=
  ⟨h.1.but hk (has_ne h.1 hC (by decide)), h.2.1.below (hk.below (fun i hi e => by omega) h.2.2), Nat.le_trans h.2.2 hk.size⟩
/-- How a statement is done in a state. -/
def Stid (w : World) (gR m : Nat) (ns gs : List (List Int)) (e : Ending) (w' : World) : Prop := e = .returned (.tuple #[]) ∧ (∃ cs, Has w' gR 88 cs ∧ SlA cs m ns gs) ∧ KeptBut w w' (fun k => k = gR)
set_option maxHeartbeats 4000000 in
theorem stepIn_any (w : World) (base g gR m c a i z : Nat) (A : Option Addr) (os : List St) (v : Int) (ns gs : List (List Int)) (s : St) (cs : Array Value) (h : Clh w base g m A c os a v gR) (hC : Has w gR 88 cs) (hA : SlA cs m ns gs) (hgR : base ≤ gR) (hm : m ≤ 12) (hM : os.length = m) (hi : i < m) (hs : os[i]? = some s) (hok : s.ok = true) (hz : z < 81) (hha : i = a → s.hasW = true)
    (hcap : (0 ≤ ent ns i z ∧ ent ns i z * 27 ≤ 1000000000000000000) ∧ (0 ≤ ent gs i z ∧ ent gs i z * 27 ≤ 1000000000000000000) ∧
    ∀ d, d ≤ 3 → (Rk m (mD m ns s ⟨i, z, ent ns i z⟩ d) ∧ tailM (V2 m) (mD m ns s ⟨i, z, ent ns i z⟩ d) (i + 1) (m - i) ≤ 1000000000000000000) ∧
      (Rk m (gD m s v (decide (i = a)) (ent ns i z) gs ⟨i, z, ent gs i z⟩ d) ∧ tailM (V2 m) (gD m s v (decide (i = a)) (ent ns i z) gs ⟨i, z, ent gs i z⟩ d) (i + 1) (m - i) ≤ 1000000000000000000)) :
    Calls Try.prog 126 #[.pointer (some ⟨g, 0, none⟩), .int .i64 i, .int .i64 z] w (Stid w gR m (mD m ns s ⟨i, z, ent ns i z⟩ s.many) (gD m s v (decide (i = a)) (ent ns i z) gs ⟨i, z, ent gs i z⟩ s.many)) := by
  obtain ⟨hN, hGq, hcp⟩ := hcap
  have hCap := Lib.hid hcp
  have hc0 := (hC.cell (i * 162 + z * 2)).trans (hA.2 i z (by omega) hz).1
  have hc1 := (hC.cell (i * 162 + z * 2 + 1)).trans (hA.2 i z (by omega) hz).2
  have hA0 := Lib.hid (show SlA cs m (mD m ns s ⟨i, z, ent ns i z⟩ 0) (gD m s v (decide (i = a)) (ent ns i z) gs ⟨i, z, ent gs i z⟩ 0) from hA)
  generalize hnn : ent ns i z = n at hc0 hN hCap hA0 ⊢
  generalize hgg : ent gs i z = q at hc1 hGq hCap hA0 ⊢
  clear hcp hnn hgg
  have hzb : (0 : Int) ≤ (z : Int) ∧ (z : Int) ≤ 80 := by omega
  have hgc := h.1.cell
  have hcl := Lib.hid h
  have hgRh := Lib.hid hgR
  have hMo := Lib.hid hM
  have hS := Lib.hid hs
  have hOk := Lib.hid hok
  have hHa := Lib.hid hha
  obtain ⟨k9, hne⟩ : ∃ k9, s.many = k9 := ⟨_, rfl⟩
  have hn1 := many_pos s
  have hn3 := many_le s
  rw [hne] at hn1 hn3
  have hNe := Lib.hid hne
  have hln : (prt m s ⟨i, z, 1⟩).length = k9 := by rw [prt_length, hne]
  have hX6 := Lib.hid (Has.new w 87 #[.int .i64 n, .int .i64 q])
  have hC6 := Lib.hid (hC.alloc (.cells #[.int .i64 n, .int .i64 q] 87))
  have hB6 := (Below.refl w.heap.size w).alloc (Nat.le_refl _) (.cells #[.int .i64 n, .int .i64 q] 87)
  have hB6h := Lib.hid hB6
  have hcl6 := Lib.hid (h.below hB6)
  have hgRl := Lib.hid hC.lt
  have hgl := Lib.hid h.1.lt
  have hbw := Lib.hid h.2.2
  have hcells : ∀ j, w.cell? ⟨g, 0 + j, none⟩ = w.cell? ⟨g, j, none⟩ := fun j => by rw [Nat.zero_add]
  clear hcells
  have cP0 := Lib.hid (fun (wx : World) (hb : Below w.heap.size w wx) => show Calls Try.prog 159 #[.slice A m c, .agg #[.int .i64 i, .int .i64 z, .int .i64 1]] wx (fun e w' => ∃ b cs, e = .returned (.slice (some ⟨b, 0, none⟩) k9 k9) ∧ wx.heap.size ≤ b ∧ Has w' b 101 cs ∧ PrtA cs (prt m s ⟨i, z, 1⟩) k9 ∧ Below wx.heap.size wx w') from
    (partsOf_any A m c os s ⟨i, z, 1⟩ wx (((h.below hb).2.1).more (h.below hb).2.2) hm hM hi hs hok hzb ⟨by show (0 : Int) ≤ 1; decide, by show (1 : Int) ≤ 1000000000000000000; decide⟩).mono fun e w' h9 => by
      unfold Prtd at h9
      rwa [hln] at h9)
  have hi0 : (0 : Int) ≤ (i : Int) := by omega
  have hi1 : (i : Int) < (m : Int) + 1 := by omega
  have hz0 : (0 : Int) ≤ (z : Int) := by omega
  have hz1 : (z : Int) < 81 := by omega
  clear h hC hA hgR hM hs hok hha hne hln hB6
  go_enter Try.func126, Try.ntmps126
  go_wp2_with fail
  clear hc0 hc1 hgc
  generalize w.alloc (.cells #[.int .i64 n, .int .i64 q] 87) = W6 at hX6 hC6 hB6h hcl6 ⊢
  have hgc6 := hcl6.out.1.cell
  go_region_law (first
    | (go_simp; go_at_call 160; refine (runAt_any i z _).mono ?_; rintro e w3 ⟨rfl, hb3⟩; have hB3 := (Below.refl W6.heap.size W6).drew.trans hb3; have hg3 := (hcl6.out.below hB3).1.cell)
    | (go_simp; go_at_call 159; refine (cP0.out _ (hB6h.out.trans (Below.mono (by first | exact hB3 | exact hB3.drew) hB6h.out.size))).mono ?_; rintro e w4 ⟨P, csP, rfl, hPge, hHP, hPr, hb4⟩))
  all_goals
    have hB4 := hB3.trans (hb4.mono hB3.size)
    have hX4 := Lib.hid (hX6.out.kept hB4)
    have hC4 := Lib.hid (hC6.out.kept hB4)
    have hcl4 := Lib.hid (hcl6.out.below hB4)
    have hK4 := Lib.hid (KeptBut.of_below (hB6h.out.trans (hB4.mono hB6h.out.size)) (fun k => k = gR))
    have hPlt := Lib.hid (show gR ≠ P ∧ gR ≠ w.heap.size ∧ W6.heap.size ≤ P from by have := hB3.size; have := hB6h.out.size; have := hgRl.out; omega)
    have hH4 := Lib.hid hHP
    have hP4 := Lib.hid hPr
    have hwz := Lib.hid hB4.size
    clear hg3 hB3 hb3 hPge hHP hPr hb4 cP0 hgc6 hX6 hC6 hB6h hcl6 hB4
    simp only [List.getElem_toArray, List.getElem_cons_succ, List.getElem_cons_zero]
    go_simp
    go_wp2_with fail
    go_loopg [28] k9 (fun gn u wr => ∃ (d : Nat) (cs : Array Value), d ≤ k9 ∧ gn = k9 - d ∧ u = .int .i64 d ∧ Has wr w.heap.size 87 #[.int .i64 n, .int .i64 q] ∧ Has wr P 101 csP ∧ Clh wr base g m A c os a v gR ∧ Has wr gR 88 cs ∧ SlA cs m (mD m ns s ⟨i, z, n⟩ d) (gD m s v (decide (i = a)) n gs ⟨i, z, q⟩ d) ∧ KeptBut w wr (fun k => k = gR))
    case atStart => exact ⟨0, cs, by omega, rfl, rfl, hX4.out, hH4.out, hcl4.out, hC4.out, hA0.out, hK4.out⟩
    case round =>
      clear hX4 hH4 hcl4 hC4 hA0 hK4
      obtain ⟨d, cs, hd, hgn, rfl, hX, hP, hcl, hC, hA, hK⟩ := hrel
      have hgk : gk = k9 - d := hgn
      clear hgn
      by_cases hdn : d < k9
      · have hdm : d < s.many := by rw [hNe.out]; exact hdn
        have hpr := prt_at (m := m) (s := s) (r := ⟨i, z, 1⟩) hdm
        obtain ⟨c0, c1, c2⟩ := hP4.out.2 d _ hdn hpr
        have hyb : 0 ≤ s.next z d ∧ s.next z d ≤ 80 := next_bd hOk.out hzb (by omega)
        have hfb := fac_bd hOk.out (s.next z d)
        obtain ⟨y, hy⟩ : ∃ y : Nat, s.next z d = (y : Int) := ⟨_, (Int.toNat_of_nonneg hyb.1).symm⟩
        have hy81 : y < 81 := by omega
        have hjm : min (i + 1 + s.jump z) m ≤ m := Nat.min_le_right _ _
        have hji : i + 1 ≤ min (i + 1 + s.jump z) m := by omega
        have e9s : (clp m (Rn.step s ⟨i, z, 1⟩ d)).st = (y : Int) := hy
        have e9w : (clp m (Rn.step s ⟨i, z, 1⟩ d)).wt = s.fac (s.next z d) := by show 1 * s.fac (s.next z d) = _; rw [Int.one_mul]
        have e9p : (clp m (Rn.step s ⟨i, z, 1⟩ d)).pos = min (i + 1 + s.jump z) m := rfl
        rw [e9s] at c1
        rw [e9w] at c2
        rw [e9p] at c0
        obtain ⟨⟨hr1, _⟩, hr2, _⟩ := hCap.out d (by omega)
        obtain ⟨⟨hr3, ht3⟩, hr4, ht4⟩ := hCap.out (d + 1) (by omega)
        have en1 := ent_toM (r := Rn.step s ⟨i, z, n⟩ d) hr1 hyb
        have eg1 := ent_gAdd (s := s) (c := v) (here := decide (i = a)) (n := n) (r := Rn.step s ⟨i, z, q⟩ d) hr2 hyb (Int.mul_nonneg hGq.1 hfb.1) hN.1
        have rs1 : (Rn.step s ⟨i, z, n⟩ d).st.toNat = y := by show (s.next z d).toNat = y; omega
        have rs2 : (Rn.step s ⟨i, z, q⟩ d).st.toNat = y := by show (s.next z d).toNat = y; omega
        have rp1 : (Rn.step s ⟨i, z, n⟩ d).pos = i + 1 + s.jump z := rfl
        have rp2 : (Rn.step s ⟨i, z, q⟩ d).pos = i + 1 + s.jump z := rfl
        have rw1 : (Rn.step s ⟨i, z, n⟩ d).wt = n * s.fac (s.next z d) := rfl
        have rw2 : (Rn.step s ⟨i, z, q⟩ d).wt = q * s.fac (s.next z d) := rfl
        have rt2 : (Rn.step s ⟨i, z, q⟩ d).st = (y : Int) := hy
        rw [rs1, rp1, rw1] at en1
        rw [rs2, rp2, rw2, rt2] at eg1
        have en2 := Lib.hid (show ∀ (j k : Nat), ent (mD m ns s ⟨i, z, n⟩ (d + 1)) j k = _ from en1)
        have eg2 := Lib.hid (show ∀ (j k : Nat), ent (gD m s v (decide (i = a)) n gs ⟨i, z, q⟩ (d + 1)) j k = _ from eg1)
        have hbn := tailM_ent hr3 hji hjm hy81
        have hbg := tailM_ent hr4 hji hjm hy81
        rw [en2.out, if_pos (And.intro rfl rfl)] at hbn
        rw [eg2.out, if_pos (And.intro rfl rfl)] at hbg
        have hb0 := (hr1.ent hjm hy81).2
        have hb1 := (hr2.ent hjm hy81).2
        have hAj := hA.2 (min (i + 1 + s.jump z) m) y hjm hy81
        have hsl : sl1 s (decide (i = a)) v (y : Int) = 0 ∨ sl1 s (decide (i = a)) v (y : Int) = 1 := by unfold sl1; split <;> simp
        rw [hy] at hfb c2 en2 eg2 hbn hbg
        have cW := Lib.hid (show ∀ (wx : World) (p : Int), Clh wx base g m A c os a v gR → Calls Try.prog 163 #[.pointer (some ⟨g, 0, none⟩), .int .i64 i, .agg #[.int .i64 p, .int .i64 y, .int .i64 (s.fac (y : Int))]] wx fun e w' => e = .returned (.agg #[.int .i64 (s.fac (y : Int)), .int .i64 (sl1 s (decide (i = a)) v (y : Int))]) ∧ Below wx.heap.size wx w' from fun wx p hcx => by
          by_cases hia : i = a
          · subst hia
            rw [decide_eq_true rfl]
            exact weightOf_here wx base g m c i gR A os v p y _ s hcx hS.out hi hOk.out (hHa.out rfl) (by omega)
          · have e : sl1 s (decide (i = a)) v (y : Int) = 0 := by unfold sl1; rw [decide_eq_false hia]; rfl
            rw [e]
            exact weightOf_far wx base g m c a gR i A os v p y _ hcx hia)
        generalize min (i + 1 + s.jump z) m = j at c0 hjm hji hbn hbg hb0 hb1 hAj en2 eg2
        generalize s.fac (y : Int) = f at c2 hfb hbn hbg cW en2 eg2
        generalize sl1 s (decide (i = a)) v (y : Int) = sl at hsl hbg cW eg2
        have hAh := Lib.hid hA
        obtain ⟨hx0, hx1⟩ := hAj
        generalize ent (mD m ns s ⟨i, z, n⟩ d) j y = X at hbn hb0 hx0 en2
        generalize ent (gD m s v (decide (i = a)) n gs ⟨i, z, q⟩ d) j y = Y at hbg hb1 hx1 eg2
        have hnf : 0 ≤ n * f ∧ n * f ≤ n * 9 := ⟨Int.mul_nonneg hN.1 hfb.1, Int.mul_le_mul_of_nonneg_left hfb.2 hN.1⟩
        have hqf : 0 ≤ q * f ∧ q * f ≤ q * 9 := ⟨Int.mul_nonneg hGq.1 hfb.1, Int.mul_le_mul_of_nonneg_left hfb.2 hGq.1⟩
        have hns : 0 ≤ n * sl ∧ n * sl ≤ n := by rcases hsl with e | e <;> rw [e] <;> omega
        have cT := Lib.hid (fun wx => times_any n q f sl wx (by rw [IntKind.wrap_i64]; omega) (by rw [IntKind.wrap_i64]; omega) (by rw [IntKind.wrap_i64]; omega) (by rw [IntKind.wrap_i64]; omega))
        have cS := Lib.hid (fun wx => plus_any X Y (n * f) (q * f + n * sl) wx (by rw [IntKind.wrap_i64]; omega) (by rw [IntKind.wrap_i64]; omega))
        have q0 := (hP.cell _).trans c0
        have q1 := (hP.cell _).trans c1
        have q2 := (hP.cell _).trans c2
        have hj0 : (0 : Int) ≤ (j : Int) := by omega
        have hj1 : (j : Int) < (m : Int) + 1 := by omega
        have hy0 : (0 : Int) ≤ (y : Int) := by omega
        have hy1 : (y : Int) < 81 := by omega
        have hd0 : (0 : Int) ≤ (d : Int) := by omega
        have hd1 : (d : Int) < (k9 : Int) := by omega
        have hBa := (Below.refl wr.heap.size wr).alloc (Nat.le_refl _) (.cells #[.int .i64 j, .int .i64 y, .int .i64 f] 101)
        have hQ8 := Lib.hid (Has.new wr 101 #[.int .i64 j, .int .i64 y, .int .i64 f])
        have hX5 := Lib.hid (hX.kept hBa)
        have hP5 := Lib.hid (hP.kept hBa)
        have hcl5 := Lib.hid (hcl.below hBa)
        have hC5 := Lib.hid (hC.kept hBa)
        have hK5 := Lib.hid (KeptBut.trans hK (KeptBut.of_below hBa (fun k => k = gR)) (fun k _ e => e))
        have hgR8 := Lib.hid (show gR ≠ wr.heap.size from by have := hC.lt; omega)
        clear c0 c1 c2 hpr hX hP hcl hC hA hK hyb hBa e9s e9w e9p hr1 hr2 hr3 ht3 hr4 ht4 en1 eg1 rs1 rs2 rp1 rp2 rw1 rw2 rt2 hy hbn hbg
        go_wp2_with fail
        clear q0 q1 q2
        generalize wr.alloc (.cells #[.int .i64 j, .int .i64 y, .int .i64 f] 101) = W0 at hQ8 hX5 hP5 hcl5 hC5 hK5 ⊢
        generalize wr.heap.size = Q at hQ8 hgR8 ⊢
        refine wp_region_any (by kernel_rfl) ?_
        change wpAny _ _ _ _ _ _ _ (World.drew _)
        refine wpAny_last (n := 12) (I := fun listed aq wx => listed.size = 13 ∧ ∃ v9 v32 v33 v34 v35 v36 v37 v38 v39 v40 v41 v42 : Value, aq = { tmps := #[.pointer (some ⟨g, 0, none⟩), .int .i64 ↑i, .int .i64 ↑z, undef, undef, undef, .pointer (some ⟨w.heap.size, 0, none⟩), undef, .pointer (some ⟨Q, 0, none⟩), v9, .pointer (some ⟨g, 0, none⟩), .pointer (some ⟨g, 0, none⟩), .pointer (some ⟨g, 3, none⟩), .slice (some ⟨gR, 0, none⟩) (m + 1) (m + 1), .int .i64 ↑i, .int .i64 ↑z, .pointer (some ⟨gR, i * 162, none⟩), .pointer (some ⟨gR, i * 162 + z * 2, none⟩), .agg #[.int .i64 n, .int .i64 q], .pointer (some ⟨g, 0, none⟩), .pointer (some ⟨g, 0, none⟩), .pointer (some ⟨g, 0, none⟩), .slice A m c, .int .i64 ↑i, .int .i64 ↑z, .agg #[.int .i64 ↑i, .int .i64 ↑z, .int .i64 1], .slice (some ⟨P, 0, none⟩) k9 k9, .int .i64 ↑k9, .int .i64 ↑d, .bool true, .pointer (some ⟨P, d * 3, none⟩), .agg #[.int .i64 ↑j, .int .i64 ↑y, .int .i64 f], v32, v33, v34, v35, v36, v37, v38, v39, v40, v41, v42, u43, u44, u45, u46, u47, u48, u49, u50, u51, u52, u53, u54, u55, u56, u57, u58, u59, u60, u61], defers := [] } ∧ (listed.getD 0 false = true → v32 = .pointer (some ⟨g, 0, none⟩)) ∧ (listed.getD 1 false = true → v33 = .pointer (some ⟨g, 0, none⟩)) ∧ (listed.getD 2 false = true → v34 = .pointer (some ⟨g, 3, none⟩)) ∧ (listed.getD 3 false = true → v35 = .slice (some ⟨gR, 0, none⟩) (m + 1) (m + 1)) ∧ (listed.getD 4 false = true → v36 = .pointer (some ⟨Q, 0, none⟩)) ∧ (listed.getD 5 false = true → v37 = .int .i64 ↑j) ∧ (listed.getD 6 false = true → v38 = .pointer (some ⟨Q, 1, none⟩)) ∧ (listed.getD 7 false = true → v39 = .int .i64 ↑y) ∧ (listed.getD 8 false = true → v40 = .pointer (some ⟨gR, j * 162, none⟩)) ∧ (listed.getD 9 false = true → v41 = .pointer (some ⟨gR, j * 162 + y * 2, none⟩)) ∧ (listed.getD 10 false = true → v42 = .agg #[.int .i64 X, .int .i64 Y]) ∧ (listed.getD 11 false = true → (∃ G9, v9 = .pointer (some ⟨G9, 0, none⟩) ∧ W0.heap.size ≤ G9 ∧ Has wx G9 87 #[.int .i64 0, .int .i64 0])) ∧ Below W0.heap.size W0 wx) rfl (by kernel_rfl) (by kernel_rfl) ?hs ?hl _ _ _ ?stq rfl (by decide) _ (by decide)
        case stq =>
          refine ⟨rfl, u9, u32, u33, u34, u35, u36, u37, u38, u39, u40, u41, u42, rfl, ?_, ?_, ?_, ?_, ?_, ?_, ?_, ?_, ?_, ?_, ?_, ?_, (Below.refl _ _).drew⟩ <;> (intro e; exact absurd e (by decide))
        case hs =>
          rintro listed aq wx ⟨hz, v9, v32, v33, v34, v35, v36, v37, v38, v39, v40, v41, v42, rfl, hII⟩ i hin hi
          obtain ⟨h0, o, ho, hd⟩ := mem_ready.1 hi
          have K0 := Lib.hid hII.1
          have K1 := Lib.hid hII.2.1
          have K2 := Lib.hid hII.2.2.1
          have K3 := Lib.hid hII.2.2.2.1
          have K4 := Lib.hid hII.2.2.2.2.1
          have K5 := Lib.hid hII.2.2.2.2.2.1
          have K6 := Lib.hid hII.2.2.2.2.2.2.1
          have K7 := Lib.hid hII.2.2.2.2.2.2.2.1
          have K8 := Lib.hid hII.2.2.2.2.2.2.2.2.1
          have K9 := Lib.hid hII.2.2.2.2.2.2.2.2.2.1
          have K10 := Lib.hid hII.2.2.2.2.2.2.2.2.2.2.1
          have K11 := Lib.hid hII.2.2.2.2.2.2.2.2.2.2.2.1
          have hB : Below W0.heap.size W0 wx := hII.2.2.2.2.2.2.2.2.2.2.2.2
          have hne := Lib.hid (fun k (hk : i ≠ k) => @listed_ne listed i k hk)
          have g9 := (hcl5.out.below hB).1.cell
          have p9 := (hQ8.out.kept hB).cell
          have x0 := ((hC5.out.kept hB).cell (j * 162 + y * 2)).trans hx0
          have x1 := ((hC5.out.kept hB).cell (j * 162 + y * 2 + 1)).trans hx1
          have h0f : listed.getD i false = false := by rw [Array.getD_eq_getD_getElem?, getD_false h0]; rfl
          clear hII hi h0
          rcases (by omega : i = 0 ∨ i = 1 ∨ i = 2 ∨ i = 3 ∨ i = 4 ∨ i = 5 ∨ i = 6 ∨ i = 7 ∨ i = 8 ∨ i = 9 ∨ i = 10 ∨ i = 11) with rfl | rfl | rfl | rfl | rfl | rfl | rfl | rfl | rfl | rfl | rfl | rfl
          · cases ho
            refine wpOp_step rfl (fun K hK => ?_)
            go_simp
            refine hK _ _ ⟨by simpa using hz, v9, .pointer (some ⟨g, 0, none⟩), v33, v34, v35, v36, v37, v38, v39, v40, v41, v42, rfl, ?_⟩
            exact ⟨fun _ => rfl, fun e => K1.out (hne.out 1 (by decide) e), fun e => K2.out (hne.out 2 (by decide) e), fun e => K3.out (hne.out 3 (by decide) e), fun e => K4.out (hne.out 4 (by decide) e), fun e => K5.out (hne.out 5 (by decide) e), fun e => K6.out (hne.out 6 (by decide) e), fun e => K7.out (hne.out 7 (by decide) e), fun e => K8.out (hne.out 8 (by decide) e), fun e => K9.out (hne.out 9 (by decide) e), fun e => K10.out (hne.out 10 (by decide) e), fun e => K11.out (hne.out 11 (by decide) e), hB⟩
          · cases ho
            have d0 := hd ⟨0, .data⟩ (by simp) rfl
            obtain rfl := K0.out d0
            refine wpOp_step rfl (fun K hK => ?_)
            go_simp
            refine hK _ _ ⟨by simpa using hz, v9, .pointer (some ⟨g, 0, none⟩), .pointer (some ⟨g, 0, none⟩), v34, v35, v36, v37, v38, v39, v40, v41, v42, rfl, ?_⟩
            exact ⟨fun e => K0.out (hne.out 0 (by decide) e), fun _ => rfl, fun e => K2.out (hne.out 2 (by decide) e), fun e => K3.out (hne.out 3 (by decide) e), fun e => K4.out (hne.out 4 (by decide) e), fun e => K5.out (hne.out 5 (by decide) e), fun e => K6.out (hne.out 6 (by decide) e), fun e => K7.out (hne.out 7 (by decide) e), fun e => K8.out (hne.out 8 (by decide) e), fun e => K9.out (hne.out 9 (by decide) e), fun e => K10.out (hne.out 10 (by decide) e), fun e => K11.out (hne.out 11 (by decide) e), hB⟩
          · cases ho
            have d1 := hd ⟨1, .data⟩ (by simp) rfl
            obtain rfl := K1.out d1
            refine wpOp_step rfl (fun K hK => ?_)
            go_simp
            refine hK _ _ ⟨by simpa using hz, v9, v32, .pointer (some ⟨g, 0, none⟩), .pointer (some ⟨g, 3, none⟩), v35, v36, v37, v38, v39, v40, v41, v42, rfl, ?_⟩
            exact ⟨fun e => K0.out (hne.out 0 (by decide) e), fun e => K1.out (hne.out 1 (by decide) e), fun _ => rfl, fun e => K3.out (hne.out 3 (by decide) e), fun e => K4.out (hne.out 4 (by decide) e), fun e => K5.out (hne.out 5 (by decide) e), fun e => K6.out (hne.out 6 (by decide) e), fun e => K7.out (hne.out 7 (by decide) e), fun e => K8.out (hne.out 8 (by decide) e), fun e => K9.out (hne.out 9 (by decide) e), fun e => K10.out (hne.out 10 (by decide) e), fun e => K11.out (hne.out 11 (by decide) e), hB⟩
          · cases ho
            have d2 := hd ⟨2, .data⟩ (by simp) rfl
            obtain rfl := K2.out d2
            refine wpOp_step rfl (fun K hK => ?_)
            go_simp
            refine hK _ _ ⟨by simpa using hz, v9, v32, v33, .pointer (some ⟨g, 3, none⟩), .slice (some ⟨gR, 0, none⟩) (m + 1) (m + 1), v36, v37, v38, v39, v40, v41, v42, rfl, ?_⟩
            exact ⟨fun e => K0.out (hne.out 0 (by decide) e), fun e => K1.out (hne.out 1 (by decide) e), fun e => K2.out (hne.out 2 (by decide) e), fun _ => rfl, fun e => K4.out (hne.out 4 (by decide) e), fun e => K5.out (hne.out 5 (by decide) e), fun e => K6.out (hne.out 6 (by decide) e), fun e => K7.out (hne.out 7 (by decide) e), fun e => K8.out (hne.out 8 (by decide) e), fun e => K9.out (hne.out 9 (by decide) e), fun e => K10.out (hne.out 10 (by decide) e), fun e => K11.out (hne.out 11 (by decide) e), hB⟩
          · cases ho
            refine wpOp_step rfl (fun K hK => ?_)
            go_simp
            refine hK _ _ ⟨by simpa using hz, v9, v32, v33, v34, v35, .pointer (some ⟨Q, 0, none⟩), v37, v38, v39, v40, v41, v42, rfl, ?_⟩
            exact ⟨fun e => K0.out (hne.out 0 (by decide) e), fun e => K1.out (hne.out 1 (by decide) e), fun e => K2.out (hne.out 2 (by decide) e), fun e => K3.out (hne.out 3 (by decide) e), fun _ => rfl, fun e => K5.out (hne.out 5 (by decide) e), fun e => K6.out (hne.out 6 (by decide) e), fun e => K7.out (hne.out 7 (by decide) e), fun e => K8.out (hne.out 8 (by decide) e), fun e => K9.out (hne.out 9 (by decide) e), fun e => K10.out (hne.out 10 (by decide) e), fun e => K11.out (hne.out 11 (by decide) e), hB⟩
          · cases ho
            have d4 := hd ⟨4, .data⟩ (by simp) rfl
            obtain rfl := K4.out d4
            refine wpOp_step rfl (fun K hK => ?_)
            go_simp
            refine hK _ _ ⟨by simpa using hz, v9, v32, v33, v34, v35, .pointer (some ⟨Q, 0, none⟩), .int .i64 ↑j, v38, v39, v40, v41, v42, rfl, ?_⟩
            exact ⟨fun e => K0.out (hne.out 0 (by decide) e), fun e => K1.out (hne.out 1 (by decide) e), fun e => K2.out (hne.out 2 (by decide) e), fun e => K3.out (hne.out 3 (by decide) e), fun e => K4.out (hne.out 4 (by decide) e), fun _ => rfl, fun e => K6.out (hne.out 6 (by decide) e), fun e => K7.out (hne.out 7 (by decide) e), fun e => K8.out (hne.out 8 (by decide) e), fun e => K9.out (hne.out 9 (by decide) e), fun e => K10.out (hne.out 10 (by decide) e), fun e => K11.out (hne.out 11 (by decide) e), hB⟩
          · cases ho
            refine wpOp_step rfl (fun K hK => ?_)
            go_simp
            refine hK _ _ ⟨by simpa using hz, v9, v32, v33, v34, v35, v36, v37, .pointer (some ⟨Q, 1, none⟩), v39, v40, v41, v42, rfl, ?_⟩
            exact ⟨fun e => K0.out (hne.out 0 (by decide) e), fun e => K1.out (hne.out 1 (by decide) e), fun e => K2.out (hne.out 2 (by decide) e), fun e => K3.out (hne.out 3 (by decide) e), fun e => K4.out (hne.out 4 (by decide) e), fun e => K5.out (hne.out 5 (by decide) e), fun _ => rfl, fun e => K7.out (hne.out 7 (by decide) e), fun e => K8.out (hne.out 8 (by decide) e), fun e => K9.out (hne.out 9 (by decide) e), fun e => K10.out (hne.out 10 (by decide) e), fun e => K11.out (hne.out 11 (by decide) e), hB⟩
          · cases ho
            have d6 := hd ⟨6, .data⟩ (by simp) rfl
            obtain rfl := K6.out d6
            refine wpOp_step rfl (fun K hK => ?_)
            go_simp
            refine hK _ _ ⟨by simpa using hz, v9, v32, v33, v34, v35, v36, v37, .pointer (some ⟨Q, 1, none⟩), .int .i64 ↑y, v40, v41, v42, rfl, ?_⟩
            exact ⟨fun e => K0.out (hne.out 0 (by decide) e), fun e => K1.out (hne.out 1 (by decide) e), fun e => K2.out (hne.out 2 (by decide) e), fun e => K3.out (hne.out 3 (by decide) e), fun e => K4.out (hne.out 4 (by decide) e), fun e => K5.out (hne.out 5 (by decide) e), fun e => K6.out (hne.out 6 (by decide) e), fun _ => rfl, fun e => K8.out (hne.out 8 (by decide) e), fun e => K9.out (hne.out 9 (by decide) e), fun e => K10.out (hne.out 10 (by decide) e), fun e => K11.out (hne.out 11 (by decide) e), hB⟩
          · cases ho
            have d3 := hd ⟨3, .data⟩ (by simp) rfl
            have d5 := hd ⟨5, .data⟩ (by simp) rfl
            obtain rfl := K3.out d3
            obtain rfl := K5.out d5
            refine wpOp_step rfl (fun K hK => ?_)
            go_simp
            refine hK _ _ ⟨by simpa using hz, v9, v32, v33, v34, .slice (some ⟨gR, 0, none⟩) (m + 1) (m + 1), v36, .int .i64 ↑j, v38, v39, .pointer (some ⟨gR, j * 162, none⟩), v41, v42, rfl, ?_⟩
            exact ⟨fun e => K0.out (hne.out 0 (by decide) e), fun e => K1.out (hne.out 1 (by decide) e), fun e => K2.out (hne.out 2 (by decide) e), fun e => K3.out (hne.out 3 (by decide) e), fun e => K4.out (hne.out 4 (by decide) e), fun e => K5.out (hne.out 5 (by decide) e), fun e => K6.out (hne.out 6 (by decide) e), fun e => K7.out (hne.out 7 (by decide) e), fun _ => rfl, fun e => K9.out (hne.out 9 (by decide) e), fun e => K10.out (hne.out 10 (by decide) e), fun e => K11.out (hne.out 11 (by decide) e), hB⟩
          · cases ho
            have d8 := hd ⟨8, .data⟩ (by simp) rfl
            have d7 := hd ⟨7, .data⟩ (by simp) rfl
            obtain rfl := K8.out d8
            obtain rfl := K7.out d7
            refine wpOp_step rfl (fun K hK => ?_)
            go_simp
            refine hK _ _ ⟨by simpa using hz, v9, v32, v33, v34, v35, v36, v37, v38, .int .i64 ↑y, .pointer (some ⟨gR, j * 162, none⟩), .pointer (some ⟨gR, j * 162 + y * 2, none⟩), v42, rfl, ?_⟩
            exact ⟨fun e => K0.out (hne.out 0 (by decide) e), fun e => K1.out (hne.out 1 (by decide) e), fun e => K2.out (hne.out 2 (by decide) e), fun e => K3.out (hne.out 3 (by decide) e), fun e => K4.out (hne.out 4 (by decide) e), fun e => K5.out (hne.out 5 (by decide) e), fun e => K6.out (hne.out 6 (by decide) e), fun e => K7.out (hne.out 7 (by decide) e), fun e => K8.out (hne.out 8 (by decide) e), fun _ => rfl, fun e => K10.out (hne.out 10 (by decide) e), fun e => K11.out (hne.out 11 (by decide) e), hB⟩
          · cases ho
            have d9 := hd ⟨9, .data⟩ (by simp) rfl
            obtain rfl := K9.out d9
            refine wpOp_step rfl (fun K hK => ?_)
            go_simp
            refine hK _ _ ⟨by simpa using hz, v9, v32, v33, v34, v35, v36, v37, v38, v39, v40, .pointer (some ⟨gR, j * 162 + y * 2, none⟩), .agg #[.int .i64 X, .int .i64 Y], rfl, ?_⟩
            exact ⟨fun e => K0.out (hne.out 0 (by decide) e), fun e => K1.out (hne.out 1 (by decide) e), fun e => K2.out (hne.out 2 (by decide) e), fun e => K3.out (hne.out 3 (by decide) e), fun e => K4.out (hne.out 4 (by decide) e), fun e => K5.out (hne.out 5 (by decide) e), fun e => K6.out (hne.out 6 (by decide) e), fun e => K7.out (hne.out 7 (by decide) e), fun e => K8.out (hne.out 8 (by decide) e), fun e => K9.out (hne.out 9 (by decide) e), fun _ => rfl, fun e => K11.out (hne.out 11 (by decide) e), hB⟩
          · cases ho
            refine wpOp_step rfl (fun K hK => ?_)
            go_simp
            refine hK _ _ ⟨by simpa using hz, .pointer (some ⟨wx.heap.size, 0, none⟩), v32, v33, v34, v35, v36, v37, v38, v39, v40, v41, v42, rfl, ?_⟩
            exact ⟨fun e => K0.out (hne.out 0 (by decide) e), fun e => K1.out (hne.out 1 (by decide) e), fun e => K2.out (hne.out 2 (by decide) e), fun e => K3.out (hne.out 3 (by decide) e), fun e => K4.out (hne.out 4 (by decide) e), fun e => K5.out (hne.out 5 (by decide) e), fun e => K6.out (hne.out 6 (by decide) e), fun e => K7.out (hne.out 7 (by decide) e), fun e => K8.out (hne.out 8 (by decide) e), fun e => K9.out (hne.out 9 (by decide) e), fun e => K10.out (hne.out 10 (by decide) e), fun _ => ⟨_, rfl, hB.size, Has.new _ _ _⟩, hB.alloc hB.size _⟩
        case hl =>
          rintro listed aq wx ⟨hz, v9, v32, v33, v34, v35, v36, v37, v38, v39, v40, v41, v42, rfl, hII⟩ hall
          have K0 := Lib.hid hII.1
          have K1 := Lib.hid hII.2.1
          have K2 := Lib.hid hII.2.2.1
          have K3 := Lib.hid hII.2.2.2.1
          have K4 := Lib.hid hII.2.2.2.2.1
          have K5 := Lib.hid hII.2.2.2.2.2.1
          have K6 := Lib.hid hII.2.2.2.2.2.2.1
          have K7 := Lib.hid hII.2.2.2.2.2.2.2.1
          have K8 := Lib.hid hII.2.2.2.2.2.2.2.2.1
          have K9 := Lib.hid hII.2.2.2.2.2.2.2.2.2.1
          have K10 := Lib.hid hII.2.2.2.2.2.2.2.2.2.2.1
          have K11 := Lib.hid hII.2.2.2.2.2.2.2.2.2.2.2.1
          have hB : Below W0.heap.size W0 wx := hII.2.2.2.2.2.2.2.2.2.2.2.2
          have g9 := (hcl5.out.below hB).1.cell
          have p9 := (hQ8.out.kept hB).cell
          have x0 := ((hC5.out.kept hB).cell (j * 162 + y * 2)).trans hx0
          have x1 := ((hC5.out.kept hB).cell (j * 162 + y * 2 + 1)).trans hx1
          clear hII
          obtain rfl := K0.out (hall 0 (by decide))
          obtain rfl := K1.out (hall 1 (by decide))
          obtain rfl := K2.out (hall 2 (by decide))
          obtain rfl := K3.out (hall 3 (by decide))
          obtain rfl := K4.out (hall 4 (by decide))
          obtain rfl := K5.out (hall 5 (by decide))
          obtain rfl := K6.out (hall 6 (by decide))
          obtain rfl := K7.out (hall 7 (by decide))
          obtain rfl := K8.out (hall 8 (by decide))
          obtain rfl := K9.out (hall 9 (by decide))
          obtain rfl := K10.out (hall 10 (by decide))
          obtain ⟨G9, rfl, hG0, hG⟩ := K11.out (hall 11 (by decide))
          clear hall K0 K1 K2 K3 K4 K5 K6 K7 K8 K9 K10 K11
          have gc := hG.cell
          have gf := hG.frozen
          refine wpOp_step rfl (fun K0 hK0 => ?_)
          go_simp
          refine hK0 _ _ ?_
          clear hK0
          have hXn := Lib.hid (show Has ((wx.setCell ⟨G9, 0, none⟩ (.int .i64 X)).setCell ⟨G9, 1, none⟩ (.int .i64 Y)) G9 87 #[.int .i64 X, .int .i64 Y] from (hG.put 0 (.int .i64 X)).put 1 (.int .i64 Y))
          have hB9 := (hB.setCell (p := ⟨G9, 0, none⟩) hG0 (.int .i64 X)).setCell (p := ⟨G9, 1, none⟩) hG0 (.int .i64 Y)
          have hQ9 := Lib.hid (hQ8.out.kept hB9)
          have hX9 := Lib.hid (hX5.out.kept hB9)
          have hP9 := Lib.hid (hP5.out.kept hB9)
          have hcl9 := Lib.hid (hcl5.out.below hB9)
          have hC9 := Lib.hid (hC5.out.kept hB9)
          have hK9 := Lib.hid (KeptBut.trans hK5.out (KeptBut.of_below hB9 (fun k => k = gR)) (fun k _ e => e))
          have hG9 := Lib.hid (show gR ≠ G9 from by have := hC5.out.lt; omega)
          clear g9 p9 x0 x1 gc gf hG hB hB9 hG0 hQ8 hX5 hP5 hcl5 hC5 hK5
          generalize (wx.setCell ⟨G9, 0, none⟩ (.int .i64 X)).setCell ⟨G9, 1, none⟩ (.int .i64 Y) = W1 at hXn hQ9 hX9 hP9 hcl9 hC9 hK9 ⊢
          go_wp2_with fail
          refine wp_region_any (by kernel_rfl) ?_
          change wpAny _ _ _ _ _ _ _ (World.drew _)
          refine wpAny_tail (n := 17) (c := 1) (I := fun listed aq wx => listed.size = 19 ∧ ∃ v43 v44 v45 v46 v47 v48 v49 v50 v51 v52 v53 v54 v55 v56 v57 v58 v59 : Value, aq = { tmps := #[.pointer (some ⟨g, 0, none⟩), .int .i64 ↑i, .int .i64 ↑z, undef, undef, undef, .pointer (some ⟨w.heap.size, 0, none⟩), undef, .pointer (some ⟨Q, 0, none⟩), .pointer (some ⟨G9, 0, none⟩), .pointer (some ⟨g, 0, none⟩), .pointer (some ⟨g, 0, none⟩), .pointer (some ⟨g, 3, none⟩), .slice (some ⟨gR, 0, none⟩) (m + 1) (m + 1), .int .i64 ↑i, .int .i64 ↑z, .pointer (some ⟨gR, i * 162, none⟩), .pointer (some ⟨gR, i * 162 + z * 2, none⟩), .agg #[.int .i64 n, .int .i64 q], .pointer (some ⟨g, 0, none⟩), .pointer (some ⟨g, 0, none⟩), .pointer (some ⟨g, 0, none⟩), .slice A m c, .int .i64 ↑i, .int .i64 ↑z, .agg #[.int .i64 ↑i, .int .i64 ↑z, .int .i64 1], .slice (some ⟨P, 0, none⟩) k9 k9, .int .i64 ↑k9, .int .i64 ↑d, .bool true, .pointer (some ⟨P, d * 3, none⟩), .agg #[.int .i64 ↑j, .int .i64 ↑y, .int .i64 f], .pointer (some ⟨g, 0, none⟩), .pointer (some ⟨g, 0, none⟩), .pointer (some ⟨g, 3, none⟩), .slice (some ⟨gR, 0, none⟩) (m + 1) (m + 1), .pointer (some ⟨Q, 0, none⟩), .int .i64 ↑j, .pointer (some ⟨Q, 1, none⟩), .int .i64 ↑y, .pointer (some ⟨gR, j * 162, none⟩), .pointer (some ⟨gR, j * 162 + y * 2, none⟩), .agg #[.int .i64 X, .int .i64 Y], v43, v44, v45, v46, v47, v48, v49, v50, v51, v52, v53, v54, v55, v56, v57, v58, v59, u60, u61], defers := [] } ∧ (listed.getD 0 false = true → v43 = .pointer (some ⟨g, 0, none⟩)) ∧ (listed.getD 1 false = true → v44 = .pointer (some ⟨g, 0, none⟩)) ∧ (listed.getD 2 false = true → v45 = .pointer (some ⟨g, 3, none⟩)) ∧ (listed.getD 3 false = true → v46 = .slice (some ⟨gR, 0, none⟩) (m + 1) (m + 1)) ∧ (listed.getD 4 false = true → v47 = .pointer (some ⟨Q, 0, none⟩)) ∧ (listed.getD 5 false = true → v48 = .int .i64 ↑j) ∧ (listed.getD 6 false = true → v49 = .pointer (some ⟨Q, 1, none⟩)) ∧ (listed.getD 7 false = true → v50 = .int .i64 ↑y) ∧ (listed.getD 8 false = true → v51 = .agg #[.int .i64 X, .int .i64 Y]) ∧ (listed.getD 9 false = true → v52 = .agg #[.int .i64 n, .int .i64 q]) ∧ (listed.getD 10 false = true → v53 = .pointer (some ⟨g, 0, none⟩)) ∧ (listed.getD 11 false = true → v54 = .int .i64 ↑i) ∧ (listed.getD 12 false = true → v55 = .agg #[.int .i64 ↑j, .int .i64 ↑y, .int .i64 f]) ∧ (listed.getD 13 false = true → v56 = .agg #[.int .i64 f, .int .i64 sl]) ∧ (listed.getD 14 false = true → v57 = .agg #[.int .i64 (n * f), .int .i64 (q * f + n * sl)]) ∧ (listed.getD 15 false = true → v58 = .agg #[.int .i64 (X + n * f), .int .i64 (Y + (q * f + n * sl))]) ∧ (listed.getD 16 false = true → v59 = .pointer (some ⟨gR, j * 162, none⟩)) ∧ Below W1.heap.size W1 wx) rfl (by kernel_rfl) (by kernel_rfl) (by kernel_rfl) ?hs ?hl _ _ _ ?stq rfl (by decide) _ (by decide)
          case stq =>
            refine ⟨rfl, u43, u44, u45, u46, u47, u48, u49, u50, u51, u52, u53, u54, u55, u56, u57, u58, u59, rfl, ?_, ?_, ?_, ?_, ?_, ?_, ?_, ?_, ?_, ?_, ?_, ?_, ?_, ?_, ?_, ?_, ?_, (Below.refl _ _).drew⟩ <;> (intro e; exact absurd e (by decide))
          case hs =>
            rintro listed aq wx ⟨hz, v43, v44, v45, v46, v47, v48, v49, v50, v51, v52, v53, v54, v55, v56, v57, v58, v59, rfl, hII⟩ i hin hi
            obtain ⟨h0, o, ho, hd⟩ := mem_ready.1 hi
            have K0 := Lib.hid hII.1
            have K1 := Lib.hid hII.2.1
            have K2 := Lib.hid hII.2.2.1
            have K3 := Lib.hid hII.2.2.2.1
            have K4 := Lib.hid hII.2.2.2.2.1
            have K5 := Lib.hid hII.2.2.2.2.2.1
            have K6 := Lib.hid hII.2.2.2.2.2.2.1
            have K7 := Lib.hid hII.2.2.2.2.2.2.2.1
            have K8 := Lib.hid hII.2.2.2.2.2.2.2.2.1
            have K9 := Lib.hid hII.2.2.2.2.2.2.2.2.2.1
            have K10 := Lib.hid hII.2.2.2.2.2.2.2.2.2.2.1
            have K11 := Lib.hid hII.2.2.2.2.2.2.2.2.2.2.2.1
            have K12 := Lib.hid hII.2.2.2.2.2.2.2.2.2.2.2.2.1
            have K13 := Lib.hid hII.2.2.2.2.2.2.2.2.2.2.2.2.2.1
            have K14 := Lib.hid hII.2.2.2.2.2.2.2.2.2.2.2.2.2.2.1
            have K15 := Lib.hid hII.2.2.2.2.2.2.2.2.2.2.2.2.2.2.2.1
            have K16 := Lib.hid hII.2.2.2.2.2.2.2.2.2.2.2.2.2.2.2.2.1
            have hB : Below W1.heap.size W1 wx := hII.2.2.2.2.2.2.2.2.2.2.2.2.2.2.2.2.2
            have hne := Lib.hid (fun k (hk : i ≠ k) => @listed_ne listed i k hk)
            have g9 := (hcl9.out.below hB).1.cell
            have p9 := (hQ9.out.kept hB).cell
            have x9 := (hXn.out.kept hB).cell
            have x6 := (hX9.out.kept hB).cell
            have h0f : listed.getD i false = false := by rw [Array.getD_eq_getD_getElem?, getD_false h0]; rfl
            clear hII hi h0
            rcases (by omega : i = 0 ∨ i = 1 ∨ i = 2 ∨ i = 3 ∨ i = 4 ∨ i = 5 ∨ i = 6 ∨ i = 7 ∨ i = 8 ∨ i = 9 ∨ i = 10 ∨ i = 11 ∨ i = 12 ∨ i = 13 ∨ i = 14 ∨ i = 15 ∨ i = 16) with rfl | rfl | rfl | rfl | rfl | rfl | rfl | rfl | rfl | rfl | rfl | rfl | rfl | rfl | rfl | rfl | rfl
            · cases ho
              refine wpOp_step rfl (fun K hK => ?_)
              go_simp
              refine hK _ _ ⟨by simpa using hz, .pointer (some ⟨g, 0, none⟩), v44, v45, v46, v47, v48, v49, v50, v51, v52, v53, v54, v55, v56, v57, v58, v59, rfl, ?_⟩
              exact ⟨fun _ => rfl, fun e => K1.out (hne.out 1 (by decide) e), fun e => K2.out (hne.out 2 (by decide) e), fun e => K3.out (hne.out 3 (by decide) e), fun e => K4.out (hne.out 4 (by decide) e), fun e => K5.out (hne.out 5 (by decide) e), fun e => K6.out (hne.out 6 (by decide) e), fun e => K7.out (hne.out 7 (by decide) e), fun e => K8.out (hne.out 8 (by decide) e), fun e => K9.out (hne.out 9 (by decide) e), fun e => K10.out (hne.out 10 (by decide) e), fun e => K11.out (hne.out 11 (by decide) e), fun e => K12.out (hne.out 12 (by decide) e), fun e => K13.out (hne.out 13 (by decide) e), fun e => K14.out (hne.out 14 (by decide) e), fun e => K15.out (hne.out 15 (by decide) e), fun e => K16.out (hne.out 16 (by decide) e), hB⟩
            · cases ho
              have d0 := hd ⟨0, .data⟩ (by simp) rfl
              obtain rfl := K0.out d0
              refine wpOp_step rfl (fun K hK => ?_)
              go_simp
              refine hK _ _ ⟨by simpa using hz, .pointer (some ⟨g, 0, none⟩), .pointer (some ⟨g, 0, none⟩), v45, v46, v47, v48, v49, v50, v51, v52, v53, v54, v55, v56, v57, v58, v59, rfl, ?_⟩
              exact ⟨fun e => K0.out (hne.out 0 (by decide) e), fun _ => rfl, fun e => K2.out (hne.out 2 (by decide) e), fun e => K3.out (hne.out 3 (by decide) e), fun e => K4.out (hne.out 4 (by decide) e), fun e => K5.out (hne.out 5 (by decide) e), fun e => K6.out (hne.out 6 (by decide) e), fun e => K7.out (hne.out 7 (by decide) e), fun e => K8.out (hne.out 8 (by decide) e), fun e => K9.out (hne.out 9 (by decide) e), fun e => K10.out (hne.out 10 (by decide) e), fun e => K11.out (hne.out 11 (by decide) e), fun e => K12.out (hne.out 12 (by decide) e), fun e => K13.out (hne.out 13 (by decide) e), fun e => K14.out (hne.out 14 (by decide) e), fun e => K15.out (hne.out 15 (by decide) e), fun e => K16.out (hne.out 16 (by decide) e), hB⟩
            · cases ho
              have d1 := hd ⟨1, .data⟩ (by simp) rfl
              obtain rfl := K1.out d1
              refine wpOp_step rfl (fun K hK => ?_)
              go_simp
              refine hK _ _ ⟨by simpa using hz, v43, .pointer (some ⟨g, 0, none⟩), .pointer (some ⟨g, 3, none⟩), v46, v47, v48, v49, v50, v51, v52, v53, v54, v55, v56, v57, v58, v59, rfl, ?_⟩
              exact ⟨fun e => K0.out (hne.out 0 (by decide) e), fun e => K1.out (hne.out 1 (by decide) e), fun _ => rfl, fun e => K3.out (hne.out 3 (by decide) e), fun e => K4.out (hne.out 4 (by decide) e), fun e => K5.out (hne.out 5 (by decide) e), fun e => K6.out (hne.out 6 (by decide) e), fun e => K7.out (hne.out 7 (by decide) e), fun e => K8.out (hne.out 8 (by decide) e), fun e => K9.out (hne.out 9 (by decide) e), fun e => K10.out (hne.out 10 (by decide) e), fun e => K11.out (hne.out 11 (by decide) e), fun e => K12.out (hne.out 12 (by decide) e), fun e => K13.out (hne.out 13 (by decide) e), fun e => K14.out (hne.out 14 (by decide) e), fun e => K15.out (hne.out 15 (by decide) e), fun e => K16.out (hne.out 16 (by decide) e), hB⟩
            · cases ho
              have d2 := hd ⟨2, .data⟩ (by simp) rfl
              obtain rfl := K2.out d2
              refine wpOp_step rfl (fun K hK => ?_)
              go_simp
              refine hK _ _ ⟨by simpa using hz, v43, v44, .pointer (some ⟨g, 3, none⟩), .slice (some ⟨gR, 0, none⟩) (m + 1) (m + 1), v47, v48, v49, v50, v51, v52, v53, v54, v55, v56, v57, v58, v59, rfl, ?_⟩
              exact ⟨fun e => K0.out (hne.out 0 (by decide) e), fun e => K1.out (hne.out 1 (by decide) e), fun e => K2.out (hne.out 2 (by decide) e), fun _ => rfl, fun e => K4.out (hne.out 4 (by decide) e), fun e => K5.out (hne.out 5 (by decide) e), fun e => K6.out (hne.out 6 (by decide) e), fun e => K7.out (hne.out 7 (by decide) e), fun e => K8.out (hne.out 8 (by decide) e), fun e => K9.out (hne.out 9 (by decide) e), fun e => K10.out (hne.out 10 (by decide) e), fun e => K11.out (hne.out 11 (by decide) e), fun e => K12.out (hne.out 12 (by decide) e), fun e => K13.out (hne.out 13 (by decide) e), fun e => K14.out (hne.out 14 (by decide) e), fun e => K15.out (hne.out 15 (by decide) e), fun e => K16.out (hne.out 16 (by decide) e), hB⟩
            · cases ho
              refine wpOp_step rfl (fun K hK => ?_)
              go_simp
              refine hK _ _ ⟨by simpa using hz, v43, v44, v45, v46, .pointer (some ⟨Q, 0, none⟩), v48, v49, v50, v51, v52, v53, v54, v55, v56, v57, v58, v59, rfl, ?_⟩
              exact ⟨fun e => K0.out (hne.out 0 (by decide) e), fun e => K1.out (hne.out 1 (by decide) e), fun e => K2.out (hne.out 2 (by decide) e), fun e => K3.out (hne.out 3 (by decide) e), fun _ => rfl, fun e => K5.out (hne.out 5 (by decide) e), fun e => K6.out (hne.out 6 (by decide) e), fun e => K7.out (hne.out 7 (by decide) e), fun e => K8.out (hne.out 8 (by decide) e), fun e => K9.out (hne.out 9 (by decide) e), fun e => K10.out (hne.out 10 (by decide) e), fun e => K11.out (hne.out 11 (by decide) e), fun e => K12.out (hne.out 12 (by decide) e), fun e => K13.out (hne.out 13 (by decide) e), fun e => K14.out (hne.out 14 (by decide) e), fun e => K15.out (hne.out 15 (by decide) e), fun e => K16.out (hne.out 16 (by decide) e), hB⟩
            · cases ho
              have d4 := hd ⟨4, .data⟩ (by simp) rfl
              obtain rfl := K4.out d4
              refine wpOp_step rfl (fun K hK => ?_)
              go_simp
              refine hK _ _ ⟨by simpa using hz, v43, v44, v45, v46, .pointer (some ⟨Q, 0, none⟩), .int .i64 ↑j, v49, v50, v51, v52, v53, v54, v55, v56, v57, v58, v59, rfl, ?_⟩
              exact ⟨fun e => K0.out (hne.out 0 (by decide) e), fun e => K1.out (hne.out 1 (by decide) e), fun e => K2.out (hne.out 2 (by decide) e), fun e => K3.out (hne.out 3 (by decide) e), fun e => K4.out (hne.out 4 (by decide) e), fun _ => rfl, fun e => K6.out (hne.out 6 (by decide) e), fun e => K7.out (hne.out 7 (by decide) e), fun e => K8.out (hne.out 8 (by decide) e), fun e => K9.out (hne.out 9 (by decide) e), fun e => K10.out (hne.out 10 (by decide) e), fun e => K11.out (hne.out 11 (by decide) e), fun e => K12.out (hne.out 12 (by decide) e), fun e => K13.out (hne.out 13 (by decide) e), fun e => K14.out (hne.out 14 (by decide) e), fun e => K15.out (hne.out 15 (by decide) e), fun e => K16.out (hne.out 16 (by decide) e), hB⟩
            · cases ho
              refine wpOp_step rfl (fun K hK => ?_)
              go_simp
              refine hK _ _ ⟨by simpa using hz, v43, v44, v45, v46, v47, v48, .pointer (some ⟨Q, 1, none⟩), v50, v51, v52, v53, v54, v55, v56, v57, v58, v59, rfl, ?_⟩
              exact ⟨fun e => K0.out (hne.out 0 (by decide) e), fun e => K1.out (hne.out 1 (by decide) e), fun e => K2.out (hne.out 2 (by decide) e), fun e => K3.out (hne.out 3 (by decide) e), fun e => K4.out (hne.out 4 (by decide) e), fun e => K5.out (hne.out 5 (by decide) e), fun _ => rfl, fun e => K7.out (hne.out 7 (by decide) e), fun e => K8.out (hne.out 8 (by decide) e), fun e => K9.out (hne.out 9 (by decide) e), fun e => K10.out (hne.out 10 (by decide) e), fun e => K11.out (hne.out 11 (by decide) e), fun e => K12.out (hne.out 12 (by decide) e), fun e => K13.out (hne.out 13 (by decide) e), fun e => K14.out (hne.out 14 (by decide) e), fun e => K15.out (hne.out 15 (by decide) e), fun e => K16.out (hne.out 16 (by decide) e), hB⟩
            · cases ho
              have d6 := hd ⟨6, .data⟩ (by simp) rfl
              obtain rfl := K6.out d6
              refine wpOp_step rfl (fun K hK => ?_)
              go_simp
              refine hK _ _ ⟨by simpa using hz, v43, v44, v45, v46, v47, v48, .pointer (some ⟨Q, 1, none⟩), .int .i64 ↑y, v51, v52, v53, v54, v55, v56, v57, v58, v59, rfl, ?_⟩
              exact ⟨fun e => K0.out (hne.out 0 (by decide) e), fun e => K1.out (hne.out 1 (by decide) e), fun e => K2.out (hne.out 2 (by decide) e), fun e => K3.out (hne.out 3 (by decide) e), fun e => K4.out (hne.out 4 (by decide) e), fun e => K5.out (hne.out 5 (by decide) e), fun e => K6.out (hne.out 6 (by decide) e), fun _ => rfl, fun e => K8.out (hne.out 8 (by decide) e), fun e => K9.out (hne.out 9 (by decide) e), fun e => K10.out (hne.out 10 (by decide) e), fun e => K11.out (hne.out 11 (by decide) e), fun e => K12.out (hne.out 12 (by decide) e), fun e => K13.out (hne.out 13 (by decide) e), fun e => K14.out (hne.out 14 (by decide) e), fun e => K15.out (hne.out 15 (by decide) e), fun e => K16.out (hne.out 16 (by decide) e), hB⟩
            · cases ho
              refine wpOp_step rfl (fun K hK => ?_)
              go_simp
              refine hK _ _ ⟨by simpa using hz, v43, v44, v45, v46, v47, v48, v49, v50, .agg #[.int .i64 X, .int .i64 Y], v52, v53, v54, v55, v56, v57, v58, v59, rfl, ?_⟩
              exact ⟨fun e => K0.out (hne.out 0 (by decide) e), fun e => K1.out (hne.out 1 (by decide) e), fun e => K2.out (hne.out 2 (by decide) e), fun e => K3.out (hne.out 3 (by decide) e), fun e => K4.out (hne.out 4 (by decide) e), fun e => K5.out (hne.out 5 (by decide) e), fun e => K6.out (hne.out 6 (by decide) e), fun e => K7.out (hne.out 7 (by decide) e), fun _ => rfl, fun e => K9.out (hne.out 9 (by decide) e), fun e => K10.out (hne.out 10 (by decide) e), fun e => K11.out (hne.out 11 (by decide) e), fun e => K12.out (hne.out 12 (by decide) e), fun e => K13.out (hne.out 13 (by decide) e), fun e => K14.out (hne.out 14 (by decide) e), fun e => K15.out (hne.out 15 (by decide) e), fun e => K16.out (hne.out 16 (by decide) e), hB⟩
            · cases ho
              refine wpOp_step rfl (fun K hK => ?_)
              go_simp
              refine hK _ _ ⟨by simpa using hz, v43, v44, v45, v46, v47, v48, v49, v50, v51, .agg #[.int .i64 n, .int .i64 q], v53, v54, v55, v56, v57, v58, v59, rfl, ?_⟩
              exact ⟨fun e => K0.out (hne.out 0 (by decide) e), fun e => K1.out (hne.out 1 (by decide) e), fun e => K2.out (hne.out 2 (by decide) e), fun e => K3.out (hne.out 3 (by decide) e), fun e => K4.out (hne.out 4 (by decide) e), fun e => K5.out (hne.out 5 (by decide) e), fun e => K6.out (hne.out 6 (by decide) e), fun e => K7.out (hne.out 7 (by decide) e), fun e => K8.out (hne.out 8 (by decide) e), fun _ => rfl, fun e => K10.out (hne.out 10 (by decide) e), fun e => K11.out (hne.out 11 (by decide) e), fun e => K12.out (hne.out 12 (by decide) e), fun e => K13.out (hne.out 13 (by decide) e), fun e => K14.out (hne.out 14 (by decide) e), fun e => K15.out (hne.out 15 (by decide) e), fun e => K16.out (hne.out 16 (by decide) e), hB⟩
            · cases ho
              refine wpOp_step rfl (fun K hK => ?_)
              go_simp
              refine hK _ _ ⟨by simpa using hz, v43, v44, v45, v46, v47, v48, v49, v50, v51, v52, .pointer (some ⟨g, 0, none⟩), v54, v55, v56, v57, v58, v59, rfl, ?_⟩
              exact ⟨fun e => K0.out (hne.out 0 (by decide) e), fun e => K1.out (hne.out 1 (by decide) e), fun e => K2.out (hne.out 2 (by decide) e), fun e => K3.out (hne.out 3 (by decide) e), fun e => K4.out (hne.out 4 (by decide) e), fun e => K5.out (hne.out 5 (by decide) e), fun e => K6.out (hne.out 6 (by decide) e), fun e => K7.out (hne.out 7 (by decide) e), fun e => K8.out (hne.out 8 (by decide) e), fun e => K9.out (hne.out 9 (by decide) e), fun _ => rfl, fun e => K11.out (hne.out 11 (by decide) e), fun e => K12.out (hne.out 12 (by decide) e), fun e => K13.out (hne.out 13 (by decide) e), fun e => K14.out (hne.out 14 (by decide) e), fun e => K15.out (hne.out 15 (by decide) e), fun e => K16.out (hne.out 16 (by decide) e), hB⟩
            · cases ho
              refine wpOp_step rfl (fun K hK => ?_)
              go_simp
              refine hK _ _ ⟨by simpa using hz, v43, v44, v45, v46, v47, v48, v49, v50, v51, v52, v53, .int .i64 ↑i, v55, v56, v57, v58, v59, rfl, ?_⟩
              exact ⟨fun e => K0.out (hne.out 0 (by decide) e), fun e => K1.out (hne.out 1 (by decide) e), fun e => K2.out (hne.out 2 (by decide) e), fun e => K3.out (hne.out 3 (by decide) e), fun e => K4.out (hne.out 4 (by decide) e), fun e => K5.out (hne.out 5 (by decide) e), fun e => K6.out (hne.out 6 (by decide) e), fun e => K7.out (hne.out 7 (by decide) e), fun e => K8.out (hne.out 8 (by decide) e), fun e => K9.out (hne.out 9 (by decide) e), fun e => K10.out (hne.out 10 (by decide) e), fun _ => rfl, fun e => K12.out (hne.out 12 (by decide) e), fun e => K13.out (hne.out 13 (by decide) e), fun e => K14.out (hne.out 14 (by decide) e), fun e => K15.out (hne.out 15 (by decide) e), fun e => K16.out (hne.out 16 (by decide) e), hB⟩
            · cases ho
              refine wpOp_step rfl (fun K hK => ?_)
              go_simp
              refine hK _ _ ⟨by simpa using hz, v43, v44, v45, v46, v47, v48, v49, v50, v51, v52, v53, v54, .agg #[.int .i64 ↑j, .int .i64 ↑y, .int .i64 f], v56, v57, v58, v59, rfl, ?_⟩
              exact ⟨fun e => K0.out (hne.out 0 (by decide) e), fun e => K1.out (hne.out 1 (by decide) e), fun e => K2.out (hne.out 2 (by decide) e), fun e => K3.out (hne.out 3 (by decide) e), fun e => K4.out (hne.out 4 (by decide) e), fun e => K5.out (hne.out 5 (by decide) e), fun e => K6.out (hne.out 6 (by decide) e), fun e => K7.out (hne.out 7 (by decide) e), fun e => K8.out (hne.out 8 (by decide) e), fun e => K9.out (hne.out 9 (by decide) e), fun e => K10.out (hne.out 10 (by decide) e), fun e => K11.out (hne.out 11 (by decide) e), fun _ => rfl, fun e => K13.out (hne.out 13 (by decide) e), fun e => K14.out (hne.out 14 (by decide) e), fun e => K15.out (hne.out 15 (by decide) e), fun e => K16.out (hne.out 16 (by decide) e), hB⟩
            · cases ho
              have d10 := hd ⟨10, .data⟩ (by simp) rfl
              have d11 := hd ⟨11, .data⟩ (by simp) rfl
              have d12 := hd ⟨12, .data⟩ (by simp) rfl
              obtain rfl := K10.out d10
              obtain rfl := K11.out d11
              obtain rfl := K12.out d12
              refine wpOp_step rfl (fun K hK => ?_)
              go_simp
              go_at_call 163
              refine (cW.out _ _ (hcl9.out.below hB)).mono ?_
              rintro e w3 ⟨rfl, hb3⟩
              refine hK _ _ ⟨by simpa using hz, v43, v44, v45, v46, v47, v48, v49, v50, v51, v52, .pointer (some ⟨g, 0, none⟩), .int .i64 ↑i, .agg #[.int .i64 ↑j, .int .i64 ↑y, .int .i64 f], .agg #[.int .i64 f, .int .i64 sl], v57, v58, v59, rfl, ?_⟩
              exact ⟨fun e => K0.out (hne.out 0 (by decide) e), fun e => K1.out (hne.out 1 (by decide) e), fun e => K2.out (hne.out 2 (by decide) e), fun e => K3.out (hne.out 3 (by decide) e), fun e => K4.out (hne.out 4 (by decide) e), fun e => K5.out (hne.out 5 (by decide) e), fun e => K6.out (hne.out 6 (by decide) e), fun e => K7.out (hne.out 7 (by decide) e), fun e => K8.out (hne.out 8 (by decide) e), fun e => K9.out (hne.out 9 (by decide) e), fun e => K10.out (hne.out 10 (by decide) e), fun e => K11.out (hne.out 11 (by decide) e), fun e => K12.out (hne.out 12 (by decide) e), fun _ => rfl, fun e => K14.out (hne.out 14 (by decide) e), fun e => K15.out (hne.out 15 (by decide) e), fun e => K16.out (hne.out 16 (by decide) e), hB.trans (hb3.mono hB.size)⟩
            · cases ho
              have d9 := hd ⟨9, .data⟩ (by simp) rfl
              have d13 := hd ⟨13, .data⟩ (by simp) rfl
              obtain rfl := K9.out d9
              obtain rfl := K13.out d13
              refine wpOp_step rfl (fun K hK => ?_)
              go_simp
              go_at_call 162
              refine (cT.out _).mono ?_
              rintro e w3 ⟨rfl, hb3⟩
              refine hK _ _ ⟨by simpa using hz, v43, v44, v45, v46, v47, v48, v49, v50, v51, .agg #[.int .i64 n, .int .i64 q], v53, v54, v55, .agg #[.int .i64 f, .int .i64 sl], .agg #[.int .i64 (n * f), .int .i64 (q * f + n * sl)], v58, v59, rfl, ?_⟩
              exact ⟨fun e => K0.out (hne.out 0 (by decide) e), fun e => K1.out (hne.out 1 (by decide) e), fun e => K2.out (hne.out 2 (by decide) e), fun e => K3.out (hne.out 3 (by decide) e), fun e => K4.out (hne.out 4 (by decide) e), fun e => K5.out (hne.out 5 (by decide) e), fun e => K6.out (hne.out 6 (by decide) e), fun e => K7.out (hne.out 7 (by decide) e), fun e => K8.out (hne.out 8 (by decide) e), fun e => K9.out (hne.out 9 (by decide) e), fun e => K10.out (hne.out 10 (by decide) e), fun e => K11.out (hne.out 11 (by decide) e), fun e => K12.out (hne.out 12 (by decide) e), fun e => K13.out (hne.out 13 (by decide) e), fun _ => rfl, fun e => K15.out (hne.out 15 (by decide) e), fun e => K16.out (hne.out 16 (by decide) e), hB.trans (hb3.mono hB.size)⟩
            · cases ho
              have d8 := hd ⟨8, .data⟩ (by simp) rfl
              have d14 := hd ⟨14, .data⟩ (by simp) rfl
              obtain rfl := K8.out d8
              obtain rfl := K14.out d14
              refine wpOp_step rfl (fun K hK => ?_)
              go_simp
              go_at_call 161
              refine (cS.out _).mono ?_
              rintro e w3 ⟨rfl, hb3⟩
              refine hK _ _ ⟨by simpa using hz, v43, v44, v45, v46, v47, v48, v49, v50, .agg #[.int .i64 X, .int .i64 Y], v52, v53, v54, v55, v56, .agg #[.int .i64 (n * f), .int .i64 (q * f + n * sl)], .agg #[.int .i64 (X + n * f), .int .i64 (Y + (q * f + n * sl))], v59, rfl, ?_⟩
              exact ⟨fun e => K0.out (hne.out 0 (by decide) e), fun e => K1.out (hne.out 1 (by decide) e), fun e => K2.out (hne.out 2 (by decide) e), fun e => K3.out (hne.out 3 (by decide) e), fun e => K4.out (hne.out 4 (by decide) e), fun e => K5.out (hne.out 5 (by decide) e), fun e => K6.out (hne.out 6 (by decide) e), fun e => K7.out (hne.out 7 (by decide) e), fun e => K8.out (hne.out 8 (by decide) e), fun e => K9.out (hne.out 9 (by decide) e), fun e => K10.out (hne.out 10 (by decide) e), fun e => K11.out (hne.out 11 (by decide) e), fun e => K12.out (hne.out 12 (by decide) e), fun e => K13.out (hne.out 13 (by decide) e), fun e => K14.out (hne.out 14 (by decide) e), fun _ => rfl, fun e => K16.out (hne.out 16 (by decide) e), hB.trans (hb3.mono hB.size)⟩
            · cases ho
              have d3 := hd ⟨3, .data⟩ (by simp) rfl
              have d5 := hd ⟨5, .data⟩ (by simp) rfl
              obtain rfl := K3.out d3
              obtain rfl := K5.out d5
              refine wpOp_step rfl (fun K hK => ?_)
              go_simp
              refine hK _ _ ⟨by simpa using hz, v43, v44, v45, .slice (some ⟨gR, 0, none⟩) (m + 1) (m + 1), v47, .int .i64 ↑j, v49, v50, v51, v52, v53, v54, v55, v56, v57, v58, .pointer (some ⟨gR, j * 162, none⟩), rfl, ?_⟩
              exact ⟨fun e => K0.out (hne.out 0 (by decide) e), fun e => K1.out (hne.out 1 (by decide) e), fun e => K2.out (hne.out 2 (by decide) e), fun e => K3.out (hne.out 3 (by decide) e), fun e => K4.out (hne.out 4 (by decide) e), fun e => K5.out (hne.out 5 (by decide) e), fun e => K6.out (hne.out 6 (by decide) e), fun e => K7.out (hne.out 7 (by decide) e), fun e => K8.out (hne.out 8 (by decide) e), fun e => K9.out (hne.out 9 (by decide) e), fun e => K10.out (hne.out 10 (by decide) e), fun e => K11.out (hne.out 11 (by decide) e), fun e => K12.out (hne.out 12 (by decide) e), fun e => K13.out (hne.out 13 (by decide) e), fun e => K14.out (hne.out 14 (by decide) e), fun e => K15.out (hne.out 15 (by decide) e), fun _ => rfl, hB⟩
          case hl =>
            rintro listed aq wx ⟨hz, v43, v44, v45, v46, v47, v48, v49, v50, v51, v52, v53, v54, v55, v56, v57, v58, v59, rfl, hII⟩ hall
            have K0 := Lib.hid hII.1
            have K1 := Lib.hid hII.2.1
            have K2 := Lib.hid hII.2.2.1
            have K3 := Lib.hid hII.2.2.2.1
            have K4 := Lib.hid hII.2.2.2.2.1
            have K5 := Lib.hid hII.2.2.2.2.2.1
            have K6 := Lib.hid hII.2.2.2.2.2.2.1
            have K7 := Lib.hid hII.2.2.2.2.2.2.2.1
            have K8 := Lib.hid hII.2.2.2.2.2.2.2.2.1
            have K9 := Lib.hid hII.2.2.2.2.2.2.2.2.2.1
            have K10 := Lib.hid hII.2.2.2.2.2.2.2.2.2.2.1
            have K11 := Lib.hid hII.2.2.2.2.2.2.2.2.2.2.2.1
            have K12 := Lib.hid hII.2.2.2.2.2.2.2.2.2.2.2.2.1
            have K13 := Lib.hid hII.2.2.2.2.2.2.2.2.2.2.2.2.2.1
            have K14 := Lib.hid hII.2.2.2.2.2.2.2.2.2.2.2.2.2.2.1
            have K15 := Lib.hid hII.2.2.2.2.2.2.2.2.2.2.2.2.2.2.2.1
            have K16 := Lib.hid hII.2.2.2.2.2.2.2.2.2.2.2.2.2.2.2.2.1
            have hB : Below W1.heap.size W1 wx := hII.2.2.2.2.2.2.2.2.2.2.2.2.2.2.2.2.2
            have g9 := (hcl9.out.below hB).1.cell
            have p9 := (hQ9.out.kept hB).cell
            have x9 := (hXn.out.kept hB).cell
            have x6 := (hX9.out.kept hB).cell
            clear hII
            obtain rfl := K0.out (hall 0 (by decide))
            obtain rfl := K1.out (hall 1 (by decide))
            obtain rfl := K2.out (hall 2 (by decide))
            obtain rfl := K3.out (hall 3 (by decide))
            obtain rfl := K4.out (hall 4 (by decide))
            obtain rfl := K5.out (hall 5 (by decide))
            obtain rfl := K6.out (hall 6 (by decide))
            obtain rfl := K7.out (hall 7 (by decide))
            obtain rfl := K8.out (hall 8 (by decide))
            obtain rfl := K9.out (hall 9 (by decide))
            obtain rfl := K10.out (hall 10 (by decide))
            obtain rfl := K11.out (hall 11 (by decide))
            obtain rfl := K12.out (hall 12 (by decide))
            obtain rfl := K13.out (hall 13 (by decide))
            obtain rfl := K14.out (hall 14 (by decide))
            obtain rfl := K15.out (hall 15 (by decide))
            obtain rfl := K16.out (hall 16 (by decide))
            clear hall K0 K1 K2 K3 K4 K5 K6 K7 K8 K9 K10 K11 K12 K13 K14 K15 K16
            unfold wpSeq
            refine wpOp_step rfl (fun K0 hK0 => ?_)
            go_simp
            refine hK0 _ _ ?_
            clear hK0
            have r0 := ((hC9.out.kept hB).cell (j * 162 + y * 2)).trans hx0
            have r1 := ((hC9.out.kept hB).cell (j * 162 + y * 2 + 1)).trans hx1
            have rf := (hC9.out.kept hB).frozen
            unfold wpSeq
            refine wpOp_step rfl (fun K1 hK1 => ?_)
            go_simp
            refine hK1 _ _ ?_
            clear hK1
            unfold wpSeq
            have hkk : KeptBut W1 ((wx.setCell ⟨gR, j * 162 + y * 2, none⟩ (.int .i64 (X + n * f))).setCell ⟨gR, j * 162 + y * 2 + 1, none⟩ (.int .i64 (Y + (q * f + n * sl)))) (fun k => k = gR) := ((KeptBut.of_below hB (fun k => k = gR)).put (p := ⟨gR, j * 162 + y * 2, none⟩) (fun _ => rfl) (.int .i64 (X + n * f))).put (p := ⟨gR, j * 162 + y * 2 + 1, none⟩) (fun _ => rfl) (.int .i64 (Y + (q * f + n * sl)))
            have hXe := Lib.hid (hX9.out.but hkk (fun e => hPlt.out.2.1 e.symm))
            have hPe := Lib.hid (hP9.out.but hkk (fun e => hPlt.out.1 e.symm))
            have hcle := Lib.hid (hcl9.out.but hkk hC9.out hgRh.out)
            have hCe := Lib.hid (((hC9.out.kept hB).put (j * 162 + y * 2) (.int .i64 (X + n * f))).put (j * 162 + y * 2 + 1) (.int .i64 (Y + (q * f + n * sl))))
            have hAe := Lib.hid (hAh.out.put hjm hy81 en2.out eg2.out)
            have hKe := Lib.hid (KeptBut.trans hK9.out hkk (fun k _ e => e))
            clear g9 p9 x9 x6 r0 r1 rf hB hkk
            generalize (wx.setCell ⟨gR, j * 162 + y * 2, none⟩ (.int .i64 (X + n * f))).setCell ⟨gR, j * 162 + y * 2 + 1, none⟩ (.int .i64 (Y + (q * f + n * sl))) = W3 at hXe hPe hcle hCe hKe ⊢
            go_wp2_with fail
            go_roundg (k9 - (d + 1))
            case measure => omega
            case rel => exact ⟨d + 1, _, by omega, rfl, by go_num, hXe.out, hPe.out, hcle.out, hCe.out, hAe.out, hKe.out⟩
      · obtain rfl : d = k9 := by omega
        have hE := Lib.hid (show Stid w gR m (mD m ns s ⟨i, z, n⟩ s.many) (gD m s v (decide (i = a)) n gs ⟨i, z, q⟩ s.many) (.returned (.tuple #[])) wr from ⟨rfl, ⟨cs, hC, by rw [hNe.out]; exact hA⟩, hK⟩)
        clear hX hP hcl hC hA hK
        go_wp2_with fail
        go_end0
        exact hE.out
end Go.Proofs.Ytbndonfpdioibaa
