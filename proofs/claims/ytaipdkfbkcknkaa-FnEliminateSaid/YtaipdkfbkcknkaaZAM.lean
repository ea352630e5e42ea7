/- Parts of the proof: K8. -/
import Derived.Test.YtaipdkfbkcknkaaZAL
namespace Go.Proofs.Ytaipdkfbkcknkaa
set_option maxRecDepth 100000
set_option linter.unusedVariables false
set_option pp.deepTerms true
set_option pp.maxSteps 1000000
open Go.RowKit
/-- The slices of a list of factors that are nil have no room. -/
def Nilf (w : World) (A : Option Addr) (n : Nat) : Prop := ∀ g off, A = some ⟨g, off, none⟩ → ∀ j, j < n * 2 → ∀ (A1 : Option Addr) (n1 c1 : Nat), w.cell? ⟨g, off + j, none⟩ = some (.slice A1 n1 c1) → A1 = none → c1 = 0
theorem Nilf.below {w w' : World} {B n : Nat} {A : Option Addr} {Fs : List Fac} (h : Nilf w A n) (hF : FLst w B A n Fs) (hb : Below B w w') : Nilf w' A n := fun g off e j hj A1 n1 c1 hc => by
  obtain ⟨g', off', e', hg, _⟩ := hF.2 (by omega)
  have : g = g' := by rw [e] at e'; injection e' with e'; injection e' with e' _ _
  subst this
  exact h g off e j hj A1 n1 c1 ((hb.cell (p := ⟨g, off + j, none⟩) hg).symm.trans hc)
theorem RowsF.nilf {w : World} {base : Nat} {A : Option Addr} {n c : Nat} {Fs : List Fac} {vs : List Value} (h : RowsF w base (.slice A n c) Fs vs) (hn : Fs.length = n) : Nilf w A n := fun g off e j hj A1 n1 c1 hc => by
  subst e
  have hl := h.length
  obtain ⟨x, hx⟩ : ∃ x, vs[j]? = some x := ⟨_, List.getElem?_eq_getElem (by omega)⟩
  have h0 : off = 0 := by
    rcases h.1.2 with ⟨hv, _⟩ | ⟨g', cap, cur, hv, _⟩
    · cases hv
    · injection hv with e1 _ _; injection e1 with e1; injection e1
  subst h0
  have hcx := World.ownsRow.cells h.1 (g := g) rfl _ _ hx
  rw [cell_add] at hcx
  rw [Nat.zero_add, hcx] at hc
  obtain ⟨ds, _, ho⟩ := h.2 j x hx
  rw [Option.some.inj hc] at ho
  intro e1
  rcases ho.2 with ⟨hv, _⟩ | ⟨g', cap, cur, hv, _⟩
  · injection hv
  · rw [e1] at hv; cases hv
def OneD (w : World) (Fs : List Fac) (n : Int) (e : Ending) (w' : World) : Prop := ∃ v vs, e = .returned (.tuple #[v, .int .i64 n]) ∧ RowsF w' w.heap.size v Fs vs ∧ Apart vs ∧ Below w.heap.size w w'
theorem wit_take {Fs : List Fac} {k : Nat} {F : Fac} (h : Fs[k]? = some F) (v : Int) : (hasF v F = true → havF (Fs.take (k + 1)) v = havF (Fs.take k) v ++ [F] ∧ witF (Fs.take (k + 1)) v = witF (Fs.take k) v) ∧ (hasF v F = false → havF (Fs.take (k + 1)) v = havF (Fs.take k) v ∧ witF (Fs.take (k + 1)) v = witF (Fs.take k) v ++ [F]) := by
  obtain ⟨hl, he⟩ := List.getElem?_eq_some_iff.1 h
  unfold havF witF
  rw [List.take_succ_eq_append_getElem hl, List.filter_append, List.filter_append, he]
  refine ⟨fun hq => ⟨by rw [List.filter_cons_of_pos hq]; rfl, by rw [List.filter_cons_of_neg (by simp [hq])]; exact List.append_nil _⟩, fun hq => ⟨by rw [List.filter_cons_of_neg (by simp [hq])]; exact List.append_nil _, by rw [List.filter_cons_of_pos (by simp [hq])]; rfl⟩⟩
theorem prodF_snoc (Fs : List Fac) (F : Fac) : prodF (Fs ++ [F]) = fTimes (prodF Fs) F := by unfold prodF prodG; rw [List.foldl_append]; rfl
theorem fine_take {Fs : List Fac} (h : Fine Fs) (k : Nat) : Fine (Fs.take k) := fun F hF => h F (List.mem_of_mem_take hF)
set_option maxHeartbeats 4000000 in
theorem l9One_any (A : Option Addr) (n c : Nat) (Fs : List Fac) (v : Fin 4) (w : World) (h : FLst w w.heap.size A n Fs) (h0 : Nilf w A n) (hn : n ≤ 20) (hf : Fine Fs) (hK : pb Fs ≤ 10000000000) :
    Calls Try.prog 67 #[.slice A n c, .int .i64 (v.val : Int)] w (OneD w (elim1 Fs (v.val : Int)) ((prodV Fs (v.val : Int)).vs.length : Int)) := by
  have hI := Lib.hid h
  have hN := Lib.hid h0
  have hF := Lib.hid hf
  have hl := h.1
  have hKh := Lib.hid hK
  obtain ⟨i0, hi0, hi1, hi2, hi3⟩ := info_parts info_fac
  clear h h0 hf hK
  have hB3 : Below w.heap.size w (((w.alloc (.cells #[] 36)).alloc (.cells #[.int .i64 1] 3)).alloc (.cells #[.slice none 0 0, .slice (some ⟨w.heap.size + 1, 0, none⟩) 1 1] 36)) := (((Below.refl _ _).alloc (Nat.le_refl _) _).alloc (by simp) _).alloc (by simp; omega) _
  have hR3 := Lib.hid (show RowsF (((w.alloc (.cells #[] 36)).alloc (.cells #[.int .i64 1] 3)).alloc (.cells #[.slice none 0 0, .slice (some ⟨w.heap.size + 1, 0, none⟩) 1 1] 36)) w.heap.size (.slice (some ⟨w.heap.size, 0, none⟩) 0 0) [] [] from
    ⟨⟨rfl, .inr ⟨w.heap.size, 0, #[], rfl, Nat.le_refl _, ((Has.new w _ _).alloc _).alloc _, Nat.le_refl _, Nat.zero_le _, rfl, rfl⟩⟩, fun i x hx => by simp at hx⟩)
  have hP3 := Lib.hid (Has.newAt (w := (w.alloc (.cells #[] 36)).alloc (.cells #[.int .i64 1] 3)) (n := w.heap.size + 1 + 1) (t := 36) (cs := #[.slice none 0 0, .slice (some ⟨w.heap.size + 1, 0, none⟩) 1 1]) (by simp))
  have hV3 := Lib.hid (show FcV (((w.alloc (.cells #[] 36)).alloc (.cells #[.int .i64 1] 3)).alloc (.cells #[.slice none 0 0, .slice (some ⟨w.heap.size + 1, 0, none⟩) 1 1] 36)) w.heap.size (.slice none 0 0) (.slice (some ⟨w.heap.size + 1, 0, none⟩) 1 1) oneF from
    ⟨IOwn.nil _ _, IOwn.of_has (ds := [1]) ((Has.newAt (w := w.alloc (.cells #[] 36)) (n := w.heap.size + 1) (t := 3) (cs := #[.int .i64 1]) (by simp)).alloc _) rfl rfl (by omega) (by decide), fun b e => by cases e⟩)
  have hB3h := Lib.hid hB3
  clear hB3
  go_enter Try.func67, Try.ntmps67
  go_wp2_with fail
  generalize ((w.alloc (.cells #[] 36)).alloc (.cells #[.int .i64 1] 3)).alloc (.cells #[.slice none 0 0, .slice (some ⟨w.heap.size + 1, 0, none⟩) 1 1] 36) = W at hR3 hP3 hV3 hB3h ⊢
  obtain ⟨P, hP⟩ : ∃ P, w.heap.size + 1 + 1 = P := ⟨_, rfl⟩
  have hPw := Lib.hid (show w.heap.size ≤ P ∧ w.heap.size ≠ P by omega)
  rw [hP] at hP3 ⊢
  clear hP
  go_loopg [6, 8] n (fun gq l x wr => ∃ (k : Nat) (vs : List Value) (v1 v2 : Value), k ≤ n ∧ gq = n - k ∧ x = .int .i64 k ∧ RowsF wr w.heap.size l (witF (Fs.take k) (v.val : Int)) vs ∧ Apart vs ∧ l.ownBlock ≠ some P ∧ Has wr P 36 #[v1, v2] ∧ FcV wr w.heap.size v1 v2 (prodF (havF (Fs.take k) (v.val : Int))) ∧ Below w.heap.size w wr)
  case atStart => exact ⟨0, [], _, _, Nat.zero_le _, rfl, rfl, hR3.out, Apart.nil, fun e => hPw.out.2 (by injection e), hP3.out, hV3.out, hB3h.out⟩
  case round =>
    obtain ⟨k, vs, v1, v2, hk, hgn, rfl, hR, hA, hlP, hPk, hV, hB⟩ := hrel
    have hgk : gk = n - k := hgn
    obtain ⟨Al, cl, rfl, _, _⟩ := hR.form
    obtain ⟨B1, e1, rfl, _, _⟩ := hV.1.form
    obtain ⟨B2, e2, rfl, _, _⟩ := hV.2.1.form
    have hRh := Lib.hid hR
    have hAh := Lib.hid hA
    have hlh := Lib.hid hlP
    have hPh := Lib.hid hPk
    have hVh := Lib.hid hV
    have hBh := Lib.hid hB
    have hzw := hB.size
    clear hgn hR hA hlP hPk hV
    by_cases hlt : k < n
    · obtain ⟨g, off, F, D1, m1, d1, D2, m2, d2, rfl, hg, hFk, cl1, cl2, hFW⟩ := (hI.out.below hB).at_ hlt
      have hk0 : (0 : Int) ≤ (k : Int) := by omega
      have hk1 : (k : Int) < (n : Int) := by omega
      have hFo := hF.out F (List.mem_of_getElem? hFk)
      obtain ⟨q1, q2, q3, q4, q5⟩ := fac_parts hFo
      have hm1 := hFW.1.1
      have hm2 := hFW.2.1
      have cH := Lib.hid (fun wx hx => l8Has_any D1 m1 d1 F.vs (v.val : Int) wx hx (by unfold maxLen; omega))
      have hFWh := Lib.hid hFW
      have hFI := Lib.hid (show Ils wr wr.heap.size D1 m1 F.vs from hFW.1.more hzw)
      have hwt := wit_take hFk (v.val : Int)
      have hgw : g < wr.heap.size := by omega
      have hFw2 := Lib.hid (hFW.more hzw)
      have hPp := prodF_all (fine_filter (fine_take hF.out k) (hasF (v.val : Int)))
      have hPK := Nat.le_refl 0
      have hpt := pb_take Fs (k + 1)
      have hsnoc := Lib.hid (prodF_snoc (havF (Fs.take k) (v.val : Int)) F)
      cases hh : hasF (v.val : Int) F
      · obtain ⟨ht1, ht2⟩ := hwt.2 hh
        have hhd : decide ((v.val : Int) ∈ F.vs) = false := hh
        rw [hhd] at cH
        have hnl := hN.out.below hI.out hB
        have hn1 := hnl g off rfl (k * 2) (by omega) D1 m1 d1 cl1
        have hn2 := hnl g off rfl (k * 2 + 1) (by omega) D2 m2 d2 (by rw [← Nat.add_assoc]; exact cl2)
        have hp4 := pow_four q4
        have cC := Lib.hid (fun wx hx => l9Copy_any D1 D2 m1 d1 m2 d2 F wx hx hn1 hn2 (by omega) (by omega))
        have hwl := Lib.hid (show (witF (Fs.take k) (v.val : Int)).length ≤ n from Nat.le_trans (List.length_filter_le _ _) (by rw [List.length_take]; omega))
        obtain ⟨m, hm⟩ : ∃ m, (witF (Fs.take k) (v.val : Int)).length = m := ⟨_, rfl⟩
        have hml := hwl.out
        rw [hm] at hml
        have hNx := Lib.hid ht1
        have hWx := Lib.hid ht2
        have hmh := Lib.hid hm
        rw [hm] at hRh hlh
        rw [hm]
        clear hwt hh hhd ht1 ht2 hPp hpt hFo hFk hFW q1 q2 q3 q4 q5 hsnoc hnl hn1 hn2 hp4 hm hwl hB hm1 hm2
        go_wp2_with fail
        refine (cH.out _ hFI.out).mono ?_
        rintro e w' ⟨rfl, rfl⟩
        go_wp2_with fail
        refine (cC.out _ hFw2.out).mono ?_
        rintro e w2 ⟨u1, u2, rfl, hV, hb2⟩
        obtain ⟨U1, q1, rfl, _, _⟩ := hV.1.form
        obtain ⟨U2, q2, rfl, _, _⟩ := hV.2.1.form
        have hB2 := Lib.hid (hBh.out.trans (hb2.mono hzw))
        have hR2 := hRh.out.below hb2
        have hP2 := hPh.out.kept hb2
        have hQ2 := hVh.out.below hb2
        have hNA := Lib.hid (apart_two (lo := 0) hAh.out hRh.out hV)
        have hal3 : Below w2.heap.size w2 (w2.alloc (.cells #[.slice U1 F.vs.length q1, .slice U2 F.ns.length q2] 36)) := (Below.refl _ _).alloc (Nat.le_refl _) _
        have hR3 := Lib.hid (hR2.below hal3)
        have hP3 := Lib.hid (hP2.kept hal3)
        have hQ3 := Lib.hid (hQ2.below hal3)
        have hV3 := Lib.hid ((hV.le hzw).below hal3)
        have hB3 := Lib.hid (hB2.out.trans (hal3.mono hB2.out.size))
        have hO3 := Lib.hid (show (w2.alloc (.cells #[.slice U1 F.vs.length q1, .slice U2 F.ns.length q2] 36)).ownsRow w.heap.size 36 2 (.slice Al m cl) m vs from by have h1 := hR3.out.1; rwa [hmh.out] at h1)
        have hnw := Lib.hid (World.news_of_block (Has.new w2 36 #[.slice U1 F.vs.length q1, .slice U2 F.ns.length q2]))
        have hsz3 := Lib.hid hB3.out.size
        have hPlt := Lib.hid (show P < w2.heap.size + 1 by have := hP2.lt; omega)
        clear hV hb2 hR2 hP2 hQ2 hal3
        go_wp2_with (at_builtin; refine wpList_append_lies _ rfl (.tmp 31) (.tmp 37) 28 rfl w.heap.size 36 i0 _ 2 48 Try.underlying28 hi0 hi1 hi2 hi3 rfl (by decide) (.slice Al m cl) m vs rfl (by exact hO3.out) ⟨w2.heap.size, 0, none⟩ 1 1 [.slice U1 F.vs.length q1, .slice U2 F.ns.length q2] rfl rfl (by exact hnw.out) (by simp [Value.oneCell']) (by omega) (by unfold maxLen; omega) (by omega) (by exact hsz3.out) (w2.heap.size + 1) (by simp) ?_; intro gr cr2 w4 hown4 hgrow4 hat4 hlt4)
        have hk4 : KeptBut _ w4 (fun i => (Value.slice Al m cl).ownBlock = some i) := KeptBut.of_grown hgrow4 (fun k e => e)
        have hP4 := Lib.hid (hP3.out.but hk4 hlh.out)
        have hQ4 := Lib.hid (show FcV w4 w.heap.size _ _ _ from ⟨hQ3.out.1.but hk4 (fun k hk e => by obtain ⟨c1, g1⟩ := owns_has hQ3.out.1 hk; obtain ⟨c2, g2⟩ := owns_has hO3.out e; exact has_ne g1 g2 fac_ne_int rfl), hQ3.out.2.1.but hk4 (fun k hk e => by obtain ⟨c1, g1⟩ := owns_has hQ3.out.2.1 hk; obtain ⟨c2, g2⟩ := owns_has hO3.out e; exact has_ne g1 g2 fac_ne_int rfl), hQ3.out.2.2⟩)
        have hR4 := Lib.hid (RowsF.append_ hR3.out hV3.out (by rw [hmh.out]; exact hown4) hgrow4)
        rw [← hWx.out] at hR4
        have hB4 := Lib.hid (hB3.out.grown hgrow4 hB3.out.size (fun k hk => (World.ownsRow.lt hO3.out k hk).1))
        have hl4 := Lib.hid (show (Value.slice (some ⟨gr, 0, none⟩) (m + 1) cr2).ownBlock ≠ some P from fun e => by
          have e' : gr = P := by injection e
          rcases hat4 with h4 | h4
          · exact hlh.out (by rw [h4, e'])
          · have := hPlt.out; omega)
        clear hown4 hgrow4 hat4 hk4
        go_wp2_with fail
        go_roundg (n - (k + 1))
        case measure => omega
        case rel => exact ⟨k + 1, _, _, _, by omega, rfl, by go_num, hR4.out, hNA.out, hl4.out, hP4.out, by rw [hNx.out]; exact hQ4.out, hB4.out⟩
      · obtain ⟨ht1, ht2⟩ := hwt.1 hh
        have hhd : decide ((v.val : Int) ∈ F.vs) = true := hh
        rw [hhd] at cH
        have hbb : pb (havF (Fs.take k) (v.val : Int)) * mB F ≤ 10000000000 := by
          have e1 := pb_append (havF (Fs.take k) (v.val : Int)) [F]
          rw [pb_one, ← ht1] at e1
          have e2 := pb_sub (hasF (v.val : Int)) (Fs.take (k + 1))
          have e3 := hKh.out
          rw [← e1]
          exact Int.le_trans e2 (Int.le_trans hpt e3)
        have hNx := Lib.hid (show prodF (havF (Fs.take (k + 1)) (v.val : Int)) = fTimes (prodF (havF (Fs.take k) (v.val : Int))) F from by rw [ht1, prodF_snoc])
        have hWx := Lib.hid ht2
        have hPok : facOk (pb (havF (Fs.take k) (v.val : Int))) (prodF (havF (Fs.take k) (v.val : Int))) = true := hPp.1
        have hMp := pb_pos (havF (Fs.take k) (v.val : Int))
        have hNp := mB_pos F
        have hMN : pb (havF (Fs.take k) (v.val : Int)) * mB F ≤ 1000000000000000000 := by omega
        have hRx := Lib.hid hRh.out
        generalize prodF (havF (Fs.take k) (v.val : Int)) = Pk at *
        generalize pb (havF (Fs.take k) (v.val : Int)) = M at *
        have cT := Lib.hid (fun wx hx hy => l8Times_M B1 B2 D1 D2 Pk.vs.length e1 Pk.ns.length e2 m1 d1 m2 d2 Pk F M (mB F) wx hx hy hPok hFo (by omega) (by omega) hMN)
        clear hwt hh hhd ht1 ht2 hPp hpt hbb hPok hMp hNp hMN hFo hFk hFW q1 q2 q3 q4 q5 hsnoc
        go_wp2_with fail
        refine (cH.out _ hFI.out).mono ?_
        rintro e w' ⟨rfl, rfl⟩
        go_wp2_with fail
        refine wp_region_any (by kernel_rfl) ?_
        change wpAny _ _ _ _ _ _ _ (World.drew _)
        refine wpAny_last (n := 6) (I := fun listed aq wx => listed.size = 7 ∧ ∃ v25 v26 v27 v28 v29 v30 : Value, aq = { tmps := #[.slice (some ⟨g, off, none⟩) n c, .int .i64 (v.val : Int), undef, undef, .slice none 0 0, .int .i64 0, .slice Al (witF (List.take k Fs) (v.val : Int)).length cl, .pointer (some ⟨P, 0, none⟩), .int .i64 ↑k, .slice (some ⟨w.heap.size, 0, none⟩) 0 0, .slice (some ⟨w.heap.size + 1, 0, none⟩) 1 1, .agg #[.slice none 0 0, .slice (some ⟨w.heap.size + 1, 0, none⟩) 1 1], .int .i64 ↑k, .slice (some ⟨g, off, none⟩) n c, .int .i64 ↑n, .bool true, u16, u17, .slice (some ⟨g, off, none⟩) n c, .int .i64 ↑k, .pointer (some ⟨g, off + k * 2, none⟩), .pointer (some ⟨g, off + k * 2, none⟩), .slice D1 m1 d1, .int .i64 (v.val : Int), .bool true, v25, v26, v27, v28, v29, v30, u31, u32, u33, u34, u35, u36, u37, u38, undef, undef, undef, undef, undef, undef, undef, undef, undef, undef, undef, undef, undef, undef, undef, undef, undef], defers := [] } ∧ (listed.getD 0 false = true → v25 = .agg #[.slice B1 Pk.vs.length e1, .slice B2 Pk.ns.length e2]) ∧ (listed.getD 1 false = true → v26 = .slice (some ⟨g, off, none⟩) n c) ∧ (listed.getD 2 false = true → v27 = .int .i64 ↑k) ∧ (listed.getD 3 false = true → v28 = .pointer (some ⟨g, off + k * 2, none⟩)) ∧ (listed.getD 4 false = true → v29 = .agg #[.slice D1 m1 d1, .slice D2 m2 d2]) ∧ (listed.getD 5 false = true → (∃ (x1 x2 : Value), v30 = .agg #[x1, x2] ∧ FcV wx wr.heap.size x1 x2 (fTimes Pk F))) ∧ Below wr.heap.size wr wx) rfl (by kernel_rfl) (by kernel_rfl) ?hs ?hl _ _ _ ?st rfl (by decide) _ (by decide)
        case st =>
          refine ⟨rfl, u25, u26, u27, u28, u29, u30, rfl, ?_, ?_, ?_, ?_, ?_, ?_, (Below.refl _ _).drew⟩ <;> (intro e; exact absurd e (by decide))
        case hs =>
          rintro listed aq wx ⟨hz, v25, v26, v27, v28, v29, v30, rfl, hII⟩ i hin hi
          obtain ⟨h0, o, ho, hd⟩ := mem_ready.1 hi
          have K0 := Lib.hid hII.1
          have K1 := Lib.hid hII.2.1
          have K2 := Lib.hid hII.2.2.1
          have K3 := Lib.hid hII.2.2.2.1
          have K4 := Lib.hid hII.2.2.2.2.1
          have K5 := Lib.hid hII.2.2.2.2.2.1
          have hB : Below wr.heap.size wr wx := hII.2.2.2.2.2.2
          have hne := Lib.hid (fun k (hk : i ≠ k) => @listed_ne listed i k hk)
          have hPx := hPh.out.kept hB
          have hPf : FacW wx wx.heap.size B1 Pk.vs.length B2 Pk.ns.length Pk := FcV.fac (hVh.out.below hB)
          have hFf : FacW wx wx.heap.size D1 m1 D2 m2 F := (hFw2.out.keep_ hB).more hB.size
          have h0f : listed.getD i false = false := by rw [Array.getD_eq_getD_getElem?, getD_false h0]; rfl
          clear hII hi h0
          rcases (by omega : i = 0 ∨ i = 1 ∨ i = 2 ∨ i = 3 ∨ i = 4 ∨ i = 5) with rfl | rfl | rfl | rfl | rfl | rfl
          · cases ho
            have hpc := hPx.cell
            refine wpOp_step rfl (fun K hK => ?_)
            go_simp
            refine hK _ _ ⟨by simpa using hz, .agg #[.slice B1 Pk.vs.length e1, .slice B2 Pk.ns.length e2], v26, v27, v28, v29, v30, rfl, ?_⟩
            exact ⟨fun _ => rfl, fun e => K1.out (hne.out 1 (by decide) e), fun e => K2.out (hne.out 2 (by decide) e), fun e => K3.out (hne.out 3 (by decide) e), fun e => K4.out (hne.out 4 (by decide) e), fun e => K5.out (hne.out 5 (by decide) e), hB⟩
          · cases ho
            refine wpOp_step rfl (fun K hK => ?_)
            go_simp
            refine hK _ _ ⟨by simpa using hz, v25, .slice (some ⟨g, off, none⟩) n c, v27, v28, v29, v30, rfl, ?_⟩
            exact ⟨fun e => K0.out (hne.out 0 (by decide) e), fun _ => rfl, fun e => K2.out (hne.out 2 (by decide) e), fun e => K3.out (hne.out 3 (by decide) e), fun e => K4.out (hne.out 4 (by decide) e), fun e => K5.out (hne.out 5 (by decide) e), hB⟩
          · cases ho
            refine wpOp_step rfl (fun K hK => ?_)
            go_simp
            refine hK _ _ ⟨by simpa using hz, v25, v26, .int .i64 ↑k, v28, v29, v30, rfl, ?_⟩
            exact ⟨fun e => K0.out (hne.out 0 (by decide) e), fun e => K1.out (hne.out 1 (by decide) e), fun _ => rfl, fun e => K3.out (hne.out 3 (by decide) e), fun e => K4.out (hne.out 4 (by decide) e), fun e => K5.out (hne.out 5 (by decide) e), hB⟩
          · cases ho
            have d1 := hd ⟨1, .data⟩ (by simp) rfl
            have d2 := hd ⟨2, .data⟩ (by simp) rfl
            obtain rfl := K1.out d1
            obtain rfl := K2.out d2
            refine wpOp_step rfl (fun K hK => ?_)
            go_simp
            refine hK _ _ ⟨by simpa using hz, v25, .slice (some ⟨g, off, none⟩) n c, .int .i64 ↑k, .pointer (some ⟨g, off + k * 2, none⟩), v29, v30, rfl, ?_⟩
            exact ⟨fun e => K0.out (hne.out 0 (by decide) e), fun e => K1.out (hne.out 1 (by decide) e), fun e => K2.out (hne.out 2 (by decide) e), fun _ => rfl, fun e => K4.out (hne.out 4 (by decide) e), fun e => K5.out (hne.out 5 (by decide) e), hB⟩
          · cases ho
            have d3 := hd ⟨3, .data⟩ (by simp) rfl
            obtain rfl := K3.out d3
            have hca := (hB.cell (p := ⟨g, off + k * 2, none⟩) hgw).trans cl1
            have hcb := (hB.cell (p := ⟨g, off + k * 2 + 1, none⟩) hgw).trans cl2
            refine wpOp_step rfl (fun K hK => ?_)
            go_simp
            refine hK _ _ ⟨by simpa using hz, v25, v26, v27, .pointer (some ⟨g, off + k * 2, none⟩), .agg #[.slice D1 m1 d1, .slice D2 m2 d2], v30, rfl, ?_⟩
            exact ⟨fun e => K0.out (hne.out 0 (by decide) e), fun e => K1.out (hne.out 1 (by decide) e), fun e => K2.out (hne.out 2 (by decide) e), fun e => K3.out (hne.out 3 (by decide) e), fun _ => rfl, fun e => K5.out (hne.out 5 (by decide) e), hB⟩
          · cases ho
            have d0 := hd ⟨0, .data⟩ (by simp) rfl
            have d4 := hd ⟨4, .data⟩ (by simp) rfl
            obtain rfl := K0.out d0
            obtain rfl := K4.out d4
            refine wpOp_step rfl (fun K hK => ?_)
            go_simp
            go_at_call 72
            refine (cT.out _ hPf hFf).mono ?_
            rintro e w3 ⟨x1, x2, rfl, hX, hb3⟩
            refine hK _ _ ⟨by simpa using hz, .agg #[.slice B1 Pk.vs.length e1, .slice B2 Pk.ns.length e2], v26, v27, v28, .agg #[.slice D1 m1 d1, .slice D2 m2 d2], .agg #[x1, x2], rfl, ?_⟩
            exact ⟨fun e => K0.out (hne.out 0 (by decide) e), fun e => K1.out (hne.out 1 (by decide) e), fun e => K2.out (hne.out 2 (by decide) e), fun e => K3.out (hne.out 3 (by decide) e), fun e => K4.out (hne.out 4 (by decide) e), fun _ => ⟨_, _, rfl, hX.le hB.size⟩, hB.trans (hb3.mono hB.size)⟩
        case hl =>
          rintro listed aq wx ⟨hz, v25, v26, v27, v28, v29, v30, rfl, hII⟩ hall
          have K0 := Lib.hid hII.1
          have K1 := Lib.hid hII.2.1
          have K2 := Lib.hid hII.2.2.1
          have K3 := Lib.hid hII.2.2.2.1
          have K4 := Lib.hid hII.2.2.2.2.1
          have K5 := Lib.hid hII.2.2.2.2.2.1
          have hB : Below wr.heap.size wr wx := hII.2.2.2.2.2.2
          have hPx := hPh.out.kept hB
          have hPf : FacW wx wx.heap.size B1 Pk.vs.length B2 Pk.ns.length Pk := FcV.fac (hVh.out.below hB)
          have hFf : FacW wx wx.heap.size D1 m1 D2 m2 F := (hFw2.out.keep_ hB).more hB.size
          clear hII
          obtain rfl := K0.out (hall 0 (by decide))
          obtain rfl := K1.out (hall 1 (by decide))
          obtain rfl := K2.out (hall 2 (by decide))
          obtain rfl := K3.out (hall 3 (by decide))
          obtain rfl := K4.out (hall 4 (by decide))
          obtain ⟨x1, x2, rfl, hX⟩ := K5.out (hall 5 (by decide))
          clear hall K0 K1 K2 K3 K4 K5
          rcases hX.1.form with ⟨X1, xc1, rfl, _, _⟩
          rcases hX.2.1.form with ⟨X2, xc2, rfl, _, _⟩
          have hgc := hPx.cell
          have hgf := hPx.frozen
          refine wpOp_step rfl (fun K0 hK0 => ?_)
          go_simp
          refine hK0 _ _ ?_
          clear hK0
          have hPn := (hPx.put 0 (.slice X1 (fTimes Pk F).vs.length xc1)).put 1 (.slice X2 (fTimes Pk F).ns.length xc2)
          have hkp := ((KeptBut.refl wx (fun i => i = P)).put (p := ⟨P, 0, none⟩) (fun _ => rfl) (.slice X1 (fTimes Pk F).vs.length xc1)).put (p := ⟨P, 1, none⟩) (fun _ => rfl) (.slice X2 (fTimes Pk F).ns.length xc2)
          have hRn := (hRh.out.below hB).but hkp (fun k hk e => hlh.out (e ▸ hk)) (fun k cur hc _ _ e => has_ne hc hPx fac_ne_int e)
          have hVn := (hX.le hzw).put2 hPx (.slice X1 (fTimes Pk F).vs.length xc1) (.slice X2 (fTimes Pk F).ns.length xc2)
          have hBn := ((hBh.out.trans (hB.mono hzw)).setCell (p := ⟨P, 0, none⟩) hPw.out.1 (.slice X1 (fTimes Pk F).vs.length xc1)).setCell (p := ⟨P, 1, none⟩) hPw.out.1 (.slice X2 (fTimes Pk F).ns.length xc2)
          rw [← hWx.out] at hRn
          have g1 := Lib.hid hPn
          have g2 := Lib.hid hRn
          have g3 := Lib.hid hVn
          have g4 := Lib.hid hBn
          have hwl : (witF (List.take k Fs) (v.val : Int)).length = (witF (List.take (k + 1) Fs) (v.val : Int)).length := by rw [hWx.out]
          rw [← hwl] at g2
          have hwl' := Lib.hid hwl
          clear hPn hkp hRn hVn hBn hX hPx hPf hFf hB hgc hgf hwl
          go_wp2_with fail
          go_roundg (n - (k + 1))
          case measure => omega
          case rel => exact ⟨k + 1, vs, (.slice X1 (fTimes Pk F).vs.length xc1), (.slice X2 (fTimes Pk F).ns.length xc2), by omega, rfl, by go_num, g2.out, hAh.out, hlh.out, g1.out, by rw [hNx.out]; exact g3.out, g4.out⟩

    · obtain rfl : k = n := by omega
      have htk : Fs.take k = Fs := List.take_of_length_le (by omega)
      rw [htk] at hRh hVh hPh hlh ⊢
      have hpa := prodV_all hF.out v
      have hMb : facOk 100000000000000000 (prodV Fs (v.val : Int)) = true := facOk_le hpa.1 (by
        have e2 := pb_sub (hasF (v.val : Int)) Fs
        have e3 := hKh.out
        have e4 : pb (havF Fs (v.val : Int)) ≤ pb Fs := e2
        omega)
      have cO := Lib.hid (fun Y1 Y2 l1 s1 l2 s2 wx hx => l8Without_M Y1 Y2 l1 s1 l2 s2 (prodV Fs (v.val : Int)) (v.val : Int) (-1) wx hx hMb (by omega))
      have hwl := Lib.hid (show (witF Fs (v.val : Int)).length ≤ k from Nat.le_trans (List.length_filter_le _ _) (by omega))
      obtain ⟨m, hm⟩ : ∃ m, (witF Fs (v.val : Int)).length = m := ⟨_, rfl⟩
      have hml := hwl.out
      rw [hm] at hml
      have hmh := Lib.hid hm
      rw [hm] at hRh hlh
      rw [hm]
      clear hm hwl htk hMb hB
      by_cases he : havF Fs (v.val : Int) = []
      · have hpv : prodV Fs (v.val : Int) = onesF (v.val : Int) := by unfold prodV; rw [if_pos he]
        have hP1 := Lib.hid (show Has wr P 36 #[.slice B1 0 e1, .slice B2 1 e2] from by have := hPh.out; rw [he] at this; exact this)
        have hpc0 := hP1.out.cell
        have hpf0 := hP1.out.frozen
        have hlen := Lib.hid (show ((prodV Fs (v.val : Int)).vs.length : Int) = 1 by rw [hpv]; rfl)
        have hPq0 := Lib.hid (((hP1.out.alloc (.cells #[.int .i64 (v.val : Int)] 3)).alloc (.cells #[.int .i64 1, .int .i64 1, .int .i64 1] 3)).put 0 (.slice (some ⟨wr.heap.size, 0, none⟩) 1 1) |>.put 1 (.slice (some ⟨wr.heap.size + 1, 0, none⟩) 3 3))
        have hB4 : Below wr.heap.size wr ((wr.alloc (.cells #[.int .i64 (v.val : Int)] 3)).alloc (.cells #[.int .i64 1, .int .i64 1, .int .i64 1] 3)) := ((Below.refl _ _).alloc (Nat.le_refl _) _).alloc (by simp) _
        have hPd0 := (hP1.out.alloc (.cells #[.int .i64 (v.val : Int)] 3)).alloc (.cells #[.int .i64 1, .int .i64 1, .int .i64 1] 3)
        have hkp := ((KeptBut.refl ((wr.alloc (.cells #[.int .i64 (v.val : Int)] 3)).alloc (.cells #[.int .i64 1, .int .i64 1, .int .i64 1] 3)) (fun i => i = P)).put (p := ⟨P, 0, none⟩) (fun _ => rfl) (.slice (some ⟨wr.heap.size, 0, none⟩) 1 1)).put (p := ⟨P, 1, none⟩) (fun _ => rfl) (.slice (some ⟨wr.heap.size + 1, 0, none⟩) 3 3)
        have hRq := Lib.hid ((hRh.out.below hB4).but hkp (fun k hk e => hlh.out (e ▸ hk)) (fun k cur hc _ _ e => has_ne hc hPd0 fac_ne_int e))
        have hVq0 : FcV ((wr.alloc (.cells #[.int .i64 (v.val : Int)] 3)).alloc (.cells #[.int .i64 1, .int .i64 1, .int .i64 1] 3)) w.heap.size (.slice (some ⟨wr.heap.size, 0, none⟩) 1 1) (.slice (some ⟨wr.heap.size + 1, 0, none⟩) 3 3) (onesF (v.val : Int)) :=
          ⟨IOwn.of_has (ds := [(v.val : Int)]) ((Has.new wr _ _).alloc _) rfl rfl hzw (by decide), IOwn.of_has (ds := [1, 1, 1]) (Has.newAt (w := wr.alloc (.cells #[.int .i64 (v.val : Int)] 3)) (n := wr.heap.size + 1) (by simp)) rfl rfl (by omega) (by decide), fun b f1 f2 => by
            have q1 : wr.heap.size = b := by simpa [Value.ownBlock] using f1
            have q2 : wr.heap.size + 1 = b := by simpa [Value.ownBlock] using f2
            omega⟩
        have hVq := Lib.hid (show FcV _ w.heap.size _ _ (prodV Fs (v.val : Int)) from by rw [hpv]; exact hVq0.put2 hPd0 (.slice (some ⟨wr.heap.size, 0, none⟩) 1 1) (.slice (some ⟨wr.heap.size + 1, 0, none⟩) 3 3))
        have hBq := Lib.hid (((hBh.out.trans (hB4.mono hzw)).setCell (p := ⟨P, 0, none⟩) hPw.out.1 (.slice (some ⟨wr.heap.size, 0, none⟩) 1 1)).setCell (p := ⟨P, 1, none⟩) hPw.out.1 (.slice (some ⟨wr.heap.size + 1, 0, none⟩) 3 3))
        have hPq := Lib.hid (show Has _ P 36 #[.slice (some ⟨wr.heap.size, 0, none⟩) 1 1, .slice (some ⟨wr.heap.size + 1, 0, none⟩) 3 3] from hPq0.out)
        have hpc0a := hPd0.cell
        have hpf0a := hPd0.frozen
        clear he hpv hpa hB4 hPd0 hkp hVq0 hPq0 hR3 hP3 hV3 hB3h hVh hPh hRh
        go_wp2_with fail
        clear hpc0 hpf0 hpc0a hpf0a
        generalize (((wr.alloc (.cells #[.int .i64 (v.val : Int)] 3)).alloc (.cells #[.int .i64 1, .int .i64 1, .int .i64 1] 3)).setCell ⟨P, 0, none⟩ (.slice (some ⟨wr.heap.size, 0, none⟩) 1 1)).setCell ⟨P, 1, none⟩ (.slice (some ⟨wr.heap.size + 1, 0, none⟩) 3 3) = wq at *
        have hPfac := Lib.hid (show FacW wq wq.heap.size (some ⟨wr.heap.size, 0, none⟩) 1 (some ⟨wr.heap.size + 1, 0, none⟩) 3 (prodV Fs (v.val : Int)) from FcV.fac hVq.out)
        have hEe : elim1 Fs (v.val : Int) = witF Fs (v.val : Int) ++ [fOut (prodV Fs (v.val : Int)) (v.val : Int) (-1)] := rfl
        generalize fOut (prodV Fs (v.val : Int)) (v.val : Int) (-1) = E at cO hEe
        have hEh := Lib.hid hEe
        have hRd := Lib.hid (show RowsF wq.drew w.heap.size (.slice Al m cl) (witF Fs (v.val : Int)) vs from hRq.out.below ((Below.refl _ _).drew))
        have hBd := Lib.hid hBq.out.drew
        have hPd := Lib.hid (show Has wq.drew P _ _ from hPq.out)
        clear hEe
        have hpc := hPq.out.cell
        go_region_law (first
          | (go_simp; go_at_call 95; refine (cO.out (some ⟨wr.heap.size, 0, none⟩) (some ⟨wr.heap.size + 1, 0, none⟩) 1 1 3 3 _ (by exact hPfac.out.keep_ ((Below.refl _ _).drew))).mono ?_; rintro e w3 ⟨y1, y2, rfl, hY, hb3⟩; obtain ⟨Y1, s1, rfl, _, _⟩ := hY.1.form; obtain ⟨Y2, s2, rfl, _, _⟩ := hY.2.1.form; have hP3 := Has.kept (by exact hPd.out) hb3; have hpc3 := hP3.cell; have hP3a := hP3.alloc (.cells #[.slice Y1 E.vs.length s1, .slice Y2 E.ns.length s2] 36); have hpc3a := hP3a.cell; have hal : Below w3.heap.size w3 (w3.alloc (.cells #[.slice Y1 E.vs.length s1, .slice Y2 E.ns.length s2] 36)) := (Below.refl _ _).alloc (Nat.le_refl _) _; have hR3a := (hRd.out.below hb3).below hal; have hO3a : (w3.alloc (.cells #[.slice Y1 E.vs.length s1, .slice Y2 E.ns.length s2] 36)).ownsRow w.heap.size 36 2 (.slice Al m cl) m vs := (by have h1 := hR3a.1; rwa [hmh.out] at h1); have hnw := World.news_of_block (Has.new w3 36 #[.slice Y1 E.vs.length s1, .slice Y2 E.ns.length s2]); have hB3 := hBd.out.trans (hb3.mono hBd.out.size); have hsz3 := hB3.size; have hV3a := (hY.le hBd.out.size).below hal; have hNA := apart_two (lo := 0) hAh.out hRd.out hY; have hB3a := hB3.trans (hal.mono hB3.size))
          | (refine step_append_lies _ rfl (.tmp 47) (.tmp 51) 28 rfl w.heap.size 36 i0 _ 2 48 Try.underlying28 hi0 hi1 hi2 hi3 rfl (by decide) (.slice Al m cl) m vs (by first | (simp [Act.eval]; done) | (simp [Act.eval, Act.put]; done)) (by exact hO3a) ⟨w3.heap.size, 0, none⟩ 1 1 [.slice Y1 E.vs.length s1, .slice Y2 E.ns.length s2] (by first | (simp [Act.eval]; done) | (simp [Act.eval, Act.put]; done)) rfl (by exact hnw) (by simp [Value.oneCell']) (by omega) (by unfold maxLen; omega) (by omega) (by simp; omega) (w3.heap.size + 1) (by simp) ?_; intro gr cr2 w6 hown6 hgrow6 hat6 hlt6; have hk6 : KeptBut _ w6 (fun i => (Value.slice Al m cl).ownBlock = some i) := KeptBut.of_grown hgrow6 (fun k e => e); have hpc6 := (hP3a.but hk6 hlh.out).cell))
        all_goals
          have hR6 := RowsF.append_ hR3a hV3a (by rw [hmh.out]; exact hown6) hgrow6
          have hQ6 := Lib.hid (show RowsF w6 w.heap.size (.slice (some ⟨gr, 0, none⟩) (m + 1) cr2) (elim1 Fs (v.val : Int)) _ from by rw [hEh.out]; exact hR6)
          have hB6 := Lib.hid (hB3a.grown hgrow6 hB3a.size (fun k hk => (World.ownsRow.lt hO3a k hk).1))
          have hNh := Lib.hid hNA
          clear hR6 hNA hB3a hV3a hsz3 hB3 hnw hO3a hR3a hal hpc3a hP3a hpc3 hP3 hown6 hgrow6 hat6 hk6 hpc6 hpc
          go_wp2_with fail
          go_ret2
          exact ⟨_, _, by rw [hlen.out]; rfl, hQ6.out, hNh.out, hB6.out⟩
      · have hpv : prodV Fs (v.val : Int) = prodF (havF Fs (v.val : Int)) := by unfold prodV; rw [if_neg he]
        rw [← hpv] at hVh hPh
        have hne : (prodV Fs (v.val : Int)).vs.length ≠ 0 := fun e0 => by
          have f1 : (prodV Fs (v.val : Int)).vs = [] := List.eq_nil_of_length_eq_zero e0
          have f2 := hpa.2.2
          rw [f1] at f2
          have f3 := nbS_tb (setsF Fs) (u := v.val) (w := v.val) (by omega) (by omega)
          rw [← f2, decide_eq_true rfl, Bool.true_or] at f3
          have f4 : tb (setOf []) v.val = false := by unfold tb; exact Nat.zero_testBit _
          rw [f4] at f3
          cases f3
        have hnd : (((prodV Fs (v.val : Int)).vs.length : Int) == 0) = false := by
          have : ((prodV Fs (v.val : Int)).vs.length : Int) ≠ 0 := by omega
          simpa using this
        have hRq := Lib.hid hRh.out
        have hVq := Lib.hid hVh.out
        have hPq := Lib.hid hPh.out
        have hBq := Lib.hid hBh.out
        clear he hpv hne hpa hR3 hP3 hV3 hB3h
        have hPfac := Lib.hid (show FacW wr wr.heap.size B1 (prodV Fs (v.val : Int)).vs.length B2 (prodV Fs (v.val : Int)).ns.length (prodV Fs (v.val : Int)) from FcV.fac hVq.out)
        have hEe : elim1 Fs (v.val : Int) = witF Fs (v.val : Int) ++ [fOut (prodV Fs (v.val : Int)) (v.val : Int) (-1)] := rfl
        generalize fOut (prodV Fs (v.val : Int)) (v.val : Int) (-1) = E at cO hEe
        have hEh := Lib.hid hEe
        have hRd := Lib.hid (show RowsF wr.drew w.heap.size (.slice Al m cl) (witF Fs (v.val : Int)) vs from hRq.out.below ((Below.refl _ _).drew))
        have hBd := Lib.hid hBq.out.drew
        have hPd := Lib.hid (show Has wr.drew P _ _ from hPq.out)
        clear hEe
        have hpc := hPq.out.cell
        go_wp2_with fail
        go_region_law (first
          | (go_simp; go_at_call 95; refine (cO.out B1 B2 (prodV Fs (v.val : Int)).vs.length e1 (prodV Fs (v.val : Int)).ns.length e2 _ (by exact hPfac.out.keep_ ((Below.refl _ _).drew))).mono ?_; rintro e w3 ⟨y1, y2, rfl, hY, hb3⟩; obtain ⟨Y1, s1, rfl, _, _⟩ := hY.1.form; obtain ⟨Y2, s2, rfl, _, _⟩ := hY.2.1.form; have hP3 := Has.kept (by exact hPd.out) hb3; have hpc3 := hP3.cell; have hP3a := hP3.alloc (.cells #[.slice Y1 E.vs.length s1, .slice Y2 E.ns.length s2] 36); have hpc3a := hP3a.cell; have hal : Below w3.heap.size w3 (w3.alloc (.cells #[.slice Y1 E.vs.length s1, .slice Y2 E.ns.length s2] 36)) := (Below.refl _ _).alloc (Nat.le_refl _) _; have hR3a := (hRd.out.below hb3).below hal; have hO3a : (w3.alloc (.cells #[.slice Y1 E.vs.length s1, .slice Y2 E.ns.length s2] 36)).ownsRow w.heap.size 36 2 (.slice Al m cl) m vs := (by have h1 := hR3a.1; rwa [hmh.out] at h1); have hnw := World.news_of_block (Has.new w3 36 #[.slice Y1 E.vs.length s1, .slice Y2 E.ns.length s2]); have hB3 := hBd.out.trans (hb3.mono hBd.out.size); have hsz3 := hB3.size; have hV3a := (hY.le hBd.out.size).below hal; have hNA := apart_two (lo := 0) hAh.out hRd.out hY; have hB3a := hB3.trans (hal.mono hB3.size))
          | (refine step_append_lies _ rfl (.tmp 47) (.tmp 51) 28 rfl w.heap.size 36 i0 _ 2 48 Try.underlying28 hi0 hi1 hi2 hi3 rfl (by decide) (.slice Al m cl) m vs (by first | (simp [Act.eval]; done) | (simp [Act.eval, Act.put]; done)) (by exact hO3a) ⟨w3.heap.size, 0, none⟩ 1 1 [.slice Y1 E.vs.length s1, .slice Y2 E.ns.length s2] (by first | (simp [Act.eval]; done) | (simp [Act.eval, Act.put]; done)) rfl (by exact hnw) (by simp [Value.oneCell']) (by omega) (by unfold maxLen; omega) (by omega) (by simp; omega) (w3.heap.size + 1) (by simp) ?_; intro gr cr2 w6 hown6 hgrow6 hat6 hlt6; have hk6 : KeptBut _ w6 (fun i => (Value.slice Al m cl).ownBlock = some i) := KeptBut.of_grown hgrow6 (fun k e => e); have hpc6 := (hP3a.but hk6 hlh.out).cell))
        all_goals
          have hR6 := RowsF.append_ hR3a hV3a (by rw [hmh.out]; exact hown6) hgrow6
          have hQ6 := Lib.hid (show RowsF w6 w.heap.size (.slice (some ⟨gr, 0, none⟩) (m + 1) cr2) (elim1 Fs (v.val : Int)) _ from by rw [hEh.out]; exact hR6)
          have hB6 := Lib.hid (hB3a.grown hgrow6 hB3a.size (fun k hk => (World.ownsRow.lt hO3a k hk).1))
          have hNh := Lib.hid hNA
          clear hR6 hNA hB3a hV3a hsz3 hB3 hnw hO3a hR3a hal hpc3a hP3a hpc3 hP3 hown6 hgrow6 hat6 hk6 hpc6 hpc
          go_wp2_with fail
          go_ret2
          exact ⟨_, _, rfl, hQ6.out, hNh.out, hB6.out⟩
end Go.Proofs.Ytaipdkfbkcknkaa
