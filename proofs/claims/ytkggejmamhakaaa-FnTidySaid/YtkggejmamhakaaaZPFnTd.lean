/- For every list of bytes: of the drawn program the program's Tidy and ChangesOf return what the model's return: nothing and 0 where it is not plain, and else a program of whose changes none is left but swaps, which is tidy itself, whose total times the number told is that of the drawn one, and which has the same answer where there is one. No condition. -/
import Derived.Test.YtkggejmamhakaaaRows
import Derived.ProofKit
import Derived.OpenShut
import Derived.ShutString
import Derived.ChangeOld
import Derived.Below
import Derived.Test.YtkggejmamhakaaaZBY
import Derived.Test.YtkggejmamhakaaaZBZ
import Derived.Test.YtkggejmamhakaaaZAJ
import Derived.Test.YtkggejmamhakaaaZAI
import Derived.Test.YtkggejmamhakaaaZCA
namespace Go.Proofs.Ytkggejmamhakaaa.fnTidy
open Go.ChangeShapes Go.WideShapes Go.ChangeAt Go.RowKit
set_option linter.unusedVariables false
set_option maxRecDepth 100000
theorem own : ownKnob Try.prog.godebug = none := by kernel_rfl
theorem laidOut : laidOutB Try.prog = true := by kernel_rfl
theorem gcdI_mul {a b g : Int} (ha : 0 ≤ a) (hb : 0 ≤ b) (hg : 0 ≤ g) : gcdI (a * g) (b * g) = gcdI a b * g := by
  obtain ⟨x, rfl⟩ := Int.eq_ofNat_of_zero_le ha
  obtain ⟨y, rfl⟩ := Int.eq_ofNat_of_zero_le hb
  obtain ⟨z, rfl⟩ := Int.eq_ofNat_of_zero_le hg
  unfold gcdI
  rw [← Int.natCast_mul, ← Int.natCast_mul, Int.toNat_natCast, Int.toNat_natCast, Int.toNat_natCast, Int.toNat_natCast, Nat.gcd_mul_right, Int.natCast_mul]
theorem foldl_gcd_mul {g : Int} (hg : 0 ≤ g) : ∀ {es : List Int} {a : Int}, (∀ x ∈ es, 0 ≤ x) → 0 ≤ a → (es.map fun e => e * g).foldl gcdI (a * g) = es.foldl gcdI a * g
  | [], a, _, _ => rfl
  | u :: r, a, h, ha => by
    have hu := h u List.mem_cons_self
    show (r.map fun e => e * g).foldl gcdI (gcdI (a * g) (u * g)) = r.foldl gcdI (gcdI a u) * g
    rw [gcdI_mul ha hu hg]
    exact foldl_gcd_mul hg (fun x hx => h x (List.mem_cons_of_mem _ hx)) (by unfold gcdI; exact Int.natCast_nonneg _)
/-- A list times a number, reduced, is the list reduced. -/
theorem redL_mul {ds : List Int} {f : Int} (hf : 1 ≤ f) (h : ∀ x ∈ ds, 0 ≤ x) : redL (ds.map fun x => f * x) = redL ds := by
  have hm : (ds.map fun x => f * x) = ds.map fun x => x * f := List.map_congr_left fun x _ => Int.mul_comm _ _
  have h1 : gcdF (ds.map fun x => f * x) = gcdF ds * f := by
    rw [hm]
    have := foldl_gcd_mul (show 0 ≤ f by omega) (es := ds) (a := 0) h (Int.le_refl _)
    rw [Int.zero_mul] at this
    exact this
  unfold redL divL
  rw [h1]
  by_cases h0 : gcdF ds = 0
  · rw [h0, Int.zero_mul, if_pos rfl, if_pos rfl]
    have hz : ∀ x ∈ ds, x = 0 := by
      have hb : ∃ M : Int, 0 ≤ M ∧ ∀ x ∈ ds, 0 ≤ x ∧ x ≤ M := by
        clear h1 hm h0
        induction ds with
        | nil => exact ⟨0, Int.le_refl _, fun x hx => by simp at hx⟩
        | cons u r ih =>
          obtain ⟨M, hM, hr⟩ := ih (fun x hx => h x (List.mem_cons_of_mem _ hx))
          have hu := h u List.mem_cons_self
          refine ⟨M + u, by omega, fun x hx => ?_⟩
          rcases List.mem_cons.1 hx with rfl | hx
          · omega
          · have := hr x hx; omega
      obtain ⟨M, hM, hb⟩ := hb
      intro x hx
      have := gcdF_dvd hb hM x hx
      rw [h0] at this
      exact Int.zero_dvd.1 this
    conv => rhs; rw [← List.map_id ds]
    exact List.map_congr_left fun x hx => by rw [hz x hx, Int.mul_zero]; rfl
  · rw [if_neg h0, if_neg (by intro e; rcases Int.mul_eq_zero.1 e with e | e <;> omega), List.map_map]
    refine List.map_congr_left fun x _ => ?_
    show f * x / (gcdF ds * f) = x / gcdF ds
    rw [Int.mul_comm (gcdF ds) f, Int.mul_ediv_mul_of_pos _ _ (by omega)]
theorem isum_mul (f : Int) : ∀ ds : List Int, isum (ds.map fun x => f * x) = f * isum ds
  | [] => by simp [isum]
  | u :: r => by rw [List.map_cons, isum, isum, isum_mul f r, Int.mul_add]
theorem total_plain {ps : List St} (h : plainOk ps = true) : totalOf ps = valAt (fun _ => 1) ps 0 0 ∧ 0 ≤ totalOf ps ∧ totalOf ps ≤ 150094635296999121 := by
  have hu := plain_self h
  obtain ⟨_, h12, _, _, hOK⟩ := unrolled_parts hu
  have hok : ∀ s ∈ ps, s.ok = true := fun s hs => List.all_eq_true.1 hOK s hs
  have e : totalOf ps = valAt (fun _ => 1) ps 0 0 := by
    unfold totalOf
    rw [hu]
  have e2 : totalOf ps = isum (wts ps 0) := by
    rw [e]
    exact (wts_sum (st := 0) hok (by decide)).symm
  have h3 := wts_top hok h12 (st := 0) (by decide)
  have h4 := weights_nonneg ps
  rw [wts_plain h (by decide)] at h4
  exact ⟨e, by rw [e2]; exact isum_nonneg h4, by rw [e2]; exact h3⟩
/-- What is tidy. -/
theorem td_facts {ps : List St} (h : plainOk ps = true) : plainOk (tdTo ps) = true ∧ nextCh (tdTo ps) = none ∧ 1 ≤ tdBy ps ∧ tdBy ps ≤ 1000000000000000 ∧ tdBy ps * totalOf (tdTo ps) = totalOf ps ∧ sameA ps (tdTo ps) = ansOk ps ∧ tdTo (tdTo ps) = tdTo ps ∧ tdBy (tdTo ps) = 1 := by
  obtain ⟨k1, k2, k3, k4, k5⟩ := tidyN_all (masses ps).toNat ps 1 h (Nat.le_refl _) (by decide)
  have e1 : tdTo ps = (tidyN (masses ps).toNat ps 1).1 := by unfold tdTo; rw [if_pos h]; rfl
  have e2 : tdBy ps = (tidyN (masses ps).toNat ps 1).2 := by unfold tdBy; rw [if_pos h]; rfl
  rw [← e1] at k1 k2 k4 k5
  rw [← e2] at k3 k4 k5
  have hs := sumWs_small h
  have hs2 := sumWs_small k1
  rw [Int.one_mul] at k4
  have hb : tdBy ps ≤ 1000000000000000 := by
    have := Int.mul_le_mul_of_nonneg_left hs2.1 (show 0 ≤ tdBy ps by omega)
    omega
  have t1 := total_plain h
  have t2 := total_plain k1
  have ht : tdBy ps * totalOf (tdTo ps) = totalOf ps := by
    rw [t1.1, t2.1]
    have := k5 (fun _ => 1) 0 (by decide)
    rw [Int.one_mul] at this
    exact this
  have hw : weightsFrom ps 0 = (weightsFrom (tdTo ps) 0).map fun x => tdBy ps * x := by
    rw [wts_plain h (by decide), wts_plain k1 (by decide)]
    unfold wts
    rw [List.map_map]
    refine List.map_congr_left fun q _ => ?_
    have := k5 (ind q) 0 (by decide)
    rw [Int.one_mul] at this
    exact this.symm
  have hnn := weights_nonneg (tdTo ps)
  have ha : ansOk (tdTo ps) = ansOk ps := by
    unfold ansOk
    rw [hw, isum_mul]
    by_cases h0 : isum (weightsFrom (tdTo ps) 0) = 0
    · rw [h0, Int.mul_zero]
    · rw [decide_eq_true h0, decide_eq_true (by intro e; rcases Int.mul_eq_zero.1 e with e | e <;> omega)]
  have hsame : sameA ps (tdTo ps) = ansOk ps := by
    unfold sameA
    rw [ha]
    cases hk : ansOk ps
    · rfl
    · have h0 : isum (weightsFrom ps 0) ≠ 0 := of_decide_eq_true hk
      have h0' : isum (weightsFrom (tdTo ps) 0) ≠ 0 := of_decide_eq_true (ha.trans hk)
      have : answOf ps = answOf (tdTo ps) := by
        unfold answOf answ
        rw [if_neg h0, if_neg h0', hw, redL_mul k3 hnn]
      rw [decide_eq_true this]
      rfl
  have hidem := tidy_end (f := 1) k2
  refine ⟨k1, k2, k3, hb, ht, hsame, ?_, ?_⟩
  · unfold tdTo at k1 hidem ⊢
    rw [if_pos k1, hidem]
  · unfold tdBy
    rw [if_pos k1, hidem]
theorem rows_zero {ps : List St} (hp : plainOk ps = true) (h : nextCh ps = none) {k : Nat} {ds : List Int} (hk : (chRows ps)[k]? = some ds) : ∃ i : Nat, ds = [(0 : Int), (i : Int)] := by
  have hl := rows_none hp h
  obtain ⟨i, hi⟩ := rows_swap hp (k := k) (by have := (List.getElem?_eq_some_iff.1 hk).1; omega)
  rw [hk] at hi
  injection hi with hi
  exact ⟨i, hi⟩
theorem own_nil_cap {w : World} {base n c : Nat} {A : Option Addr} {os : List St} (h : Own w base (.slice A n c) os) : A = none → c = 0 := by
  intro e
  subst e
  rcases h.2 with ⟨hv, _⟩ | ⟨g, cap, cur, hv, _⟩
  · injection hv
  · injection hv with e1 _ _
    cases e1
theorem chRows_bd {ps : List St} (h : ps.length ≤ 20) : (chRows ps).length ≤ 100 ∧ ∀ ds ∈ chRows ps, ds.length ≤ 1000000 := ⟨ch_len h, fun ds hd => by
  obtain ⟨x, y, rfl⟩ := ch_two hd
  show 2 ≤ 1000000
  decide⟩
set_option maxHeartbeats 2000000 in
theorem walk {H : Type} (enc : TypeId × Value → H) (W : World) (base : Nat) (v0 : Value) (d0 : DataW H) (p0 : List MemPlace) (hv0 : Value.okWide Try.prog W .any base 22 v0)
    (h0 : DataW.Trod enc Try.prog W 0 (fun _ => true) true 22 v0 d0 p0) (_ : ∀ x ∈ p0, x.block < W.heap.size) :
    Calls Try.prog 3 #[v0] W fun e w' => e = .returned (.bool true) ∧ Below W.heap.size W w' := by
  obtain ⟨A, n, c, rfl, hn, hc, hb⟩ := open_bytes hv0 h0
  clear hv0 h0
  have hcM := Lib.hid hc
  have hnn : n ≤ 9223372036854775807 := by unfold maxLen at hc; omega
  clear hc
  by_cases h1 : 1048576 < n
  · go_enter Try.func3, Try.ntmps3
    go_wp2_with fail
    go_ret
    exact ⟨rfl, Below.refl _ _⟩
  go_enter Try.func3, Try.ntmps3
  go_wp2_with fail
  refine (DrawTidy_any A n c _ hb hn hcM.out).mono ?_
  rintro e w1 ⟨v, ps, rfl, hO, hl, hB1⟩
  obtain ⟨A1, c1, hv, hlc, hcm⟩ := hO.form
  subst hv
  have hnil := own_nil_cap hO
  have hP1 := Lib.hid hO.lst
  have hB1' := Lib.hid hB1
  have hbg : ps.length ≤ 1048576 := by omega
  have cT := Lib.hid (fun wx (hx : Lst wx wx.heap.size A1 ps.length ps) => Tidy_any A1 ps.length c1 ps wx hx hlc hcm hnil)
  have cTS := Lib.hid (fun wx (hx : Lst wx wx.heap.size A1 ps.length ps) => specTidy_any A1 ps.length c1 ps wx hx hlc hcm hbg hnil)
  have cC := Lib.hid (fun wx (hx : Lst wx wx.heap.size A1 ps.length ps) => ChangesOf_any A1 ps.length c1 ps wx hx hlc hcm)
  have cCS := Lib.hid (fun wx (hx : Lst wx wx.heap.size A1 ps.length ps) => specChangesOf_any A1 ps.length c1 ps wx hx hlc hcm hbg)
  have cA := Lib.hid (fun wx (hx : Lst wx wx.heap.size A1 ps.length ps) => AnswerOf_any A1 ps.length c1 ps wx hx hlc hcm)
  have cTo := Lib.hid (fun wx (hx : Lst wx wx.heap.size A1 ps.length ps) => TotalOf_any A1 ps.length c1 ps wx hx hlc hcm)
  have cSa := Lib.hid (fun A2 k2 c2 qs wx (hx : Lst wx wx.heap.size A1 ps.length ps) h2 h3 h4 => SameAnswer_any A1 A2 ps.length c1 k2 c2 ps qs wx hx hlc hcm h2 h3 h4)
  have hNo := Lib.hid (show plainOk ps = false → tdTo ps = [] ∧ tdBy ps = 0 from fun h => by
    unfold tdTo tdBy
    rw [h]
    exact ⟨rfl, rfl⟩)
  have hYes := Lib.hid (show plainOk ps = true → plainOk (tdTo ps) = true ∧ nextCh (tdTo ps) = none ∧ 1 ≤ tdBy ps ∧ tdBy ps ≤ 1000000000000000 ∧ tdBy ps * totalOf (tdTo ps) = totalOf ps ∧ sameA ps (tdTo ps) = ansOk ps ∧ tdTo (tdTo ps) = tdTo ps ∧ tdBy (tdTo ps) = 1 from fun h => td_facts h)
  have hTot := Lib.hid (show plainOk ps = true → 0 ≤ totalOf ps ∧ totalOf ps ≤ 150094635296999121 from fun h => (total_plain h).2)
  have hLen := Lib.hid (show (tdTo ps).length ≤ 20 from by
    cases h : plainOk ps
    · unfold tdTo; rw [h]; simp
    · have := (plain_iff.1 (td_facts h).1).1
      omega)
  obtain ⟨hrl, hrd⟩ := chRows_bd hl
  have hRd := Lib.hid hrd
  unfold Tdd at cT cTS
  unfold Rwsd at cC
  unfold RwsM at cCS
  unfold Lbd at cA
  generalize chRows ps = rs at cC cCS hrl hRd
  generalize tdTo ps = qs at cT cTS hNo hYes hLen
  generalize tdBy ps = f at cT cTS hNo hYes
  generalize totalOf ps = tp at cTo hYes hTot
  generalize ansOk ps = ao at cA hYes
  generalize answOf ps = al at cA
  have hkn := Lib.hid (show plainOk ps = true ∨ plainOk ps = false from by cases plainOk ps <;> simp)
  generalize hok : plainOk ps = ok at cT cTS hNo hYes hTot
  have n1 : (ok != ok) = false := by simp
  have n2 : (f != f) = false := by simp
  have hqm : qs.length ≤ maxLen := by have := hLen.out; unfold maxLen; omega
  have hrm : rs.length ≤ 1000000 := by omega
  clear hO hB1 hb hlc hcm hrd hok hkn hnil
  go_wp2_with fail
  refine (cT.out _ hP1.out).mono ?_
  rintro e w3 ⟨v3, rfl, hO3, hb3⟩
  obtain ⟨A3, c3, hv, hlc3, hcm3⟩ := hO3.form
  subst hv
  have hnil3 := Lib.hid (own_nil_cap hO3)
  have hB3 := Lib.hid (hB1'.out.trans (hb3.mono hB1'.out.size))
  have hP3 := Lib.hid ((hP1.out.below hb3).more hb3.size)
  have hQ3 := Lib.hid hO3.lst
  clear hO3 hb3
  go_wp2_with fail
  refine (cTS.out _ hP3.out).mono ?_
  rintro e w4 ⟨v4, rfl, hO4, hb4⟩
  obtain ⟨A4, c4, hv, _, _⟩ := hO4.form
  subst hv
  have hB4 := Lib.hid (hB3.out.trans (hb4.mono hB3.out.size))
  have hP4 := Lib.hid ((hP3.out.below hb4).more hb4.size)
  have hQ4 := Lib.hid ((hQ3.out.below hb4).more hb4.size)
  have hS4 := Lib.hid hO4.lst
  clear hO4 hb4
  go_wp2_with fail
  refine (wcProgram_same A3 A4 qs.length c3 c4 qs _ hQ4.out hS4.out hqm).mono ?_
  rintro e w5 ⟨rfl, hb5⟩
  have hB5 := Lib.hid (hB4.out.trans (hb5.mono hB4.out.size))
  have hP5 := Lib.hid ((hP4.out.below hb5).more hb5.size)
  have hQ5 := Lib.hid ((hQ4.out.below hb5).more hb5.size)
  clear hb5 hS4
  go_wp2_with fail
  refine (cC.out _ hP5.out).mono ?_
  rintro e w6 ⟨v6, vs6, rfl, hV6, _, hb6⟩
  obtain ⟨A6, c6, hv, _, _⟩ := hV6.form
  subst hv
  have hB6 := Lib.hid (hB5.out.trans (hb6.mono hB5.out.size))
  have hP6 := Lib.hid ((hP5.out.below hb6).more hb6.size)
  have hQ6 := Lib.hid ((hQ5.out.below hb6).more hb6.size)
  have hV6h := Lib.hid hV6
  clear hb6 hV6
  go_wp2_with fail
  refine (cCS.out _ hP6.out).mono ?_
  rintro e w7 ⟨v7, vs7, rfl, hV7, hb7⟩
  obtain ⟨A7, c7, hv, _, _⟩ := hV7.form
  subst hv
  have hB7 := Lib.hid (hB6.out.trans (hb7.mono hB6.out.size))
  have hP7 := Lib.hid ((hP6.out.below hb7).more hb7.size)
  have hQ7 := Lib.hid ((hQ6.out.below hb7).more hb7.size)
  have hV67 := Lib.hid (hV6h.out.but (KeptBut.of_below hb7 (fun _ => False)) (fun _ _ h => h) (fun _ _ _ _ _ h => h))
  have hV7h := Lib.hid hV7
  clear hb7 hV7 hV6h
  go_wp2_with fail
  refine (wcRows_same A6 A7 rs.length c6 c7 _ _ rs vs6 vs7 _ hV67.out hV7h.out rfl hrm hRd.out).mono ?_
  rintro e w8 ⟨rfl, hq8⟩
  have hb8 : Below w7.heap.size w7 w8 := by obtain ⟨q, rfl⟩ := hq8; exact below_drewN (Below.refl _ _) q
  have hB8 := Lib.hid (hB7.out.trans (hb8.mono hB7.out.size))
  have hP8 := Lib.hid ((hP7.out.below hb8).more hb8.size)
  have hQ8 := Lib.hid ((hQ7.out.below hb8).more hb8.size)
  clear hb8 hq8 hV67 hV7h
  cases ok
  · obtain ⟨hE, hF⟩ := hNo.out rfl
    subst hE
    subst hF
    go_wp2_with fail
    go_ret
    exact ⟨rfl, hB8.out⟩
  · obtain ⟨hY1, hY2, hY3, hY4, hY5, hY6, hY7, hY8⟩ := hYes.out rfl
    have hTb := hTot.out rfl
    have cQ := Lib.hid (fun wx (hx : Lst wx wx.heap.size A3 qs.length qs) => ChangesOf_any A3 qs.length c3 qs wx hx hlc3 hcm3)
    have cQT := Lib.hid (fun wx (hx : Lst wx wx.heap.size A3 qs.length qs) => Tidy_any A3 qs.length c3 qs wx hx hlc3 hcm3 hnil3.out)
    have cQo := Lib.hid (fun wx (hx : Lst wx wx.heap.size A3 qs.length qs) => TotalOf_any A3 qs.length c3 qs wx hx hlc3 hcm3)
    have cS := Lib.hid (fun wx (hx : Lst wx wx.heap.size A1 ps.length ps) (hy : Lst wx wx.heap.size A3 qs.length qs) => cSa.out A3 qs.length c3 qs wx hx hy hlc3 hcm3)
    unfold Tdd at cQT
    unfold Rwsd at cQ
    rw [hY7, hY8, hY1] at cQT
    rw [hY6] at cS
    have hRz := Lib.hid (fun (k : Nat) (ds : List Int) (hk : (chRows qs)[k]? = some ds) => rows_zero hY1 hY2 hk)
    have hqr : (chRows qs).length ≤ 100 := ch_len hLen.out
    generalize chRows qs = us at cQ hRz hqr
    generalize totalOf qs = tq at cQo hY5
    have hmul := Lib.hid hY5
    have hw : IntKind.i64.wrap (f * tq) = tp := by rw [hY5, IntKind.wrap_i64]; omega
    have hw' : wrap64 (f * tq) = tp := by rw [hY5]; unfold wrap64; omega
    have n3 : (tp == tp) = true := by simp
    have n4 : (ao == ao) = true := by simp
    clear hY1 hY2 hY5 hY6 hY7 hY8 hlc3 hcm3 hYes hNo hTot cSa cC cCS cT cTS
    obtain ⟨N, hN⟩ : ∃ N, us.length = N := ⟨_, rfl⟩
    go_wp2_with fail
    refine (cQ.out _ hQ8.out).mono ?_
    rintro e w9 ⟨v9, vs9, rfl, hV9, _, hb9⟩
    obtain ⟨A9, c9, hv, _, _⟩ := hV9.form
    subst hv
    rw [hN] at hV9 hqr ⊢
    have hNh := Lib.hid hN
    have hB9 := Lib.hid (hB8.out.trans (hb9.mono hB8.out.size))
    have hP9 := Lib.hid ((hP8.out.below hb9).more hb9.size)
    have hQ9 := Lib.hid ((hQ8.out.below hb9).more hb9.size)
    have hV9h := Lib.hid hV9
    clear hb9 hV9 hN
    go_wp2_with fail
    go_loopg [68] N (fun gn o wr => ∃ k : Nat, k ≤ N ∧ gn = N - k ∧ o = .int .i64 (k : Int) ∧ wr = w9)
    case atStart => exact ⟨0, Nat.zero_le _, rfl, rfl, rfl⟩
    case round =>
      obtain ⟨k, hk, hgn, rfl, hwr⟩ := hrel
      obtain rfl := hwr
      have hgk : gk = N - k := hgn
      clear hgn
      have hk0 : (0 : Int) ≤ (k : Int) := by omega
      by_cases hlt : k < N
      · have hk1 : (k : Int) < (N : Int) := by omega
        obtain ⟨ds, hds⟩ : ∃ ds, us[k]? = some ds := ⟨_, List.getElem?_eq_getElem (by have := hNh.out; omega)⟩
        obtain ⟨i, rfl⟩ := hRz.out k ds hds
        obtain ⟨g3, gx, ox, cx, rfl, hg3, hgx, e0, e1, e2⟩ := row_at hV9h.out hNh.out hds
        clear hds
        go_wp2_with fail
        go_roundg (N - (k + 1))
        case measure => omega
        case rel => exact ⟨k + 1, by omega, rfl, by go_num, rfl⟩
      · obtain rfl : k = N := by omega
        go_wp2_with fail
        refine (cQT.out _ hQ9.out).mono ?_
        rintro e w10 ⟨v10, rfl, hO10, hb10⟩
        obtain ⟨A10, c10, hv, _, _⟩ := hO10.form
        subst hv
        have hB10 := Lib.hid (hB9.out.trans (hb10.mono hB9.out.size))
        have hP10 := Lib.hid ((hP9.out.below hb10).more hb10.size)
        have hQ10 := Lib.hid ((hQ9.out.below hb10).more hb10.size)
        have hS10 := Lib.hid hO10.lst
        clear hO10 hb10
        go_wp2_with fail
        refine (cA.out _ hP10.out).mono ?_
        rintro e w11 ⟨v11, rfl, hI11, hb11⟩
        obtain ⟨A11, c11, hv, _, _⟩ := hI11.form
        subst hv
        have hB11 := Lib.hid (hB10.out.trans (hb11.mono hB10.out.size))
        have hP11 := Lib.hid ((hP10.out.below hb11).more hb11.size)
        have hQ11 := Lib.hid ((hQ10.out.below hb11).more hb11.size)
        have hS11 := Lib.hid ((hS10.out.below hb11).more hb11.size)
        clear hI11 hb11
        go_wp2_with fail
        refine (wcProgram_same A10 A3 qs.length c10 c3 qs _ hS11.out hQ11.out hqm).mono ?_
        rintro e w12 ⟨rfl, hb12⟩
        have hB12 := Lib.hid (hB11.out.trans (hb12.mono hB11.out.size))
        have hP12 := Lib.hid ((hP11.out.below hb12).more hb12.size)
        have hQ12 := Lib.hid ((hQ11.out.below hb12).more hb12.size)
        clear hb12
        go_wp2_with fail
        refine (cTo.out _ hP12.out).mono ?_
        rintro e w13 ⟨rfl, hb13⟩
        have hB13 := Lib.hid (hB12.out.trans (hb13.mono hB12.out.size))
        have hP13 := Lib.hid ((hP12.out.below hb13).more hb13.size)
        have hQ13 := Lib.hid ((hQ12.out.below hb13).more hb13.size)
        clear hb13
        go_wp2_with fail
        refine (cQo.out _ hQ13.out).mono ?_
        rintro e w14 ⟨rfl, hb14⟩
        have hB14 := Lib.hid (hB13.out.trans (hb14.mono hB13.out.size))
        have hP14 := Lib.hid ((hP13.out.below hb14).more hb14.size)
        have hQ14 := Lib.hid ((hQ13.out.below hb14).more hb14.size)
        clear hb14
        go_wp2_with fail
        refine (cS.out _ hP14.out hQ14.out).mono ?_
        rintro e w15 ⟨rfl, hb15⟩
        have hB15 := Lib.hid (hB14.out.trans (hb15.mono hB14.out.size))
        clear hb15
        go_wp2_with fail
        go_ret
        exact ⟨rfl, hB15.out⟩
set_option maxRecDepth 100000 in
theorem lifted (os : Os) (started : os.Started) (H : Type) (enc : TypeId × Value → H) :
    ReturnsInHanded {} Try.checked os 3 .any (Rows.fnTidySpec.pre6 enc Try.prog Try.f3 Rows.fnTidyRow.domain false) (Rows.fnTidySpec.post enc Try.prog Try.f3 false true false false) := by
  refine returnsInHanded_of_change (C := Try.checked) own started (by kernel_rfl) Try.func3
    (ChangeSpec.witness6 (enc := enc) (C := Try.checked) false ⟨#[], #[.slice none 0 0], []⟩ 8 (by kernel_rfl) (by kernel_rfl) (by kernel_rfl) (by kernel_rfl)) ?_
  intro W base args ds gs before hval0 hW hcnd _
  have hval : ∀ (j : Nat) t v, Try.f3.params[j]? = some t → args[j]? = some v → Value.okWide Try.prog W .any base t v := hval0
  have hW' := hW
  obtain ⟨p, q, hA0, hV, rfl, hfz, hnd⟩ := hW
  have hA : DataW.TrodAll enc Try.prog W 0 (fun _ => true) true Try.f3.params.toList args.toList ds p := hA0
  rw [Try.params3] at hA hval
  obtain ⟨v0, vs0, d0, ds0, p0, q0, hargs, rfl, rfl, h0, r0⟩ := trodAll_cons hA
  obtain ⟨rfl, rfl, rfl⟩ := trodAll_nil r0
  obtain rfl : args = #[v0] := by cases args; simp_all
  obtain ⟨rfl, rfl⟩ := trodVars_none hV
  have lt0 : ∀ x ∈ p0, x.block < W.heap.size := by
    obtain ⟨m, hm⟩ := h0
    exact DataW.trod_lt m _ _ _ hm
  clear hA0 hval0
  refine (walk enc W base v0 d0 p0 (hval 0 22 v0 rfl rfl) h0 lt0).mono fun e W' ⟨he, bel⟩ => ?_
  subst he
  exact ⟨_, rfl, _, _, _, [], _, [], hW', trodAll_mk1 (shut_bool Try.underlying4 _), (trodAll_cons_mk (Below.trod laidOut (by kernel_rfl) (of_decide_eq_true (by kernel_rfl)) h0 bel lt0) trodAll_mk0), rfl, bel.frame _, fun h => by cases h⟩
theorem proved : Rows.FnTidySaid :=
  OpenClaim.holds_of_wide 3 Try.f3 rfl rfl rfl rfl rfl rfl rfl ⟨rfl, rfl, rfl, rfl, rfl⟩ rfl rfl rfl rfl rfl (by kernel_rfl) Try.func3 (by kernel_rfl)
    (of_decide_eq_true (by kernel_rfl)) (by unfold Func.isWrapper; first | (rw [if_pos (by decide +kernel)]; kernel_rfl) | (rw [if_neg (by decide +kernel)]; exact ⟨rfl, rfl⟩))
    (fun os started H enc _ => lifted os started H enc)
end Go.Proofs.Ytkggejmamhakaaa.fnTidy
