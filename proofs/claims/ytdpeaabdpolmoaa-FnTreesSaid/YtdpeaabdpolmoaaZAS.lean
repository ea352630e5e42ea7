/- Parts of the proof: Dn, MA. -/
import Derived.Test.YtdpeaabdpolmoaaZAR
import Derived.Test.YtdpeaabdpolmoaaZAF
import Derived.Test.YtdpeaabdpolmoaaZAE
import Derived.Test.YtdpeaabdpolmoaaZAC
namespace Go.Proofs.Ytdpeaabdpolmoaa
set_option maxRecDepth 100000
set_option linter.unusedVariables false
open Go.RowKit
/-- A drawn list of factors whose variables are known. -/
def DrG (w : World) (e : Ending) (w' : World) : Prop :=
  ∃ (v : Value) (Fs : List Fac) (vs : List Value), e = .returned v ∧ RowsF w' w.heap.size v Fs vs ∧ Fs.length ≤ 7 ∧ (∀ F ∈ Fs, GdF F) ∧ Below w.heap.size w w'
theorem gdf_small {Fs : List Fac} (h : ∀ F ∈ Fs, GdF F) : smallF Fs := fun F hF => by
  have := h F hF
  unfold maxLen
  exact ⟨by have := this.1; omega, by have := this.2.1; omega⟩
set_option maxHeartbeats 2000000 in
theorem DrawTreeOk_any (A : Option Addr) (n c : Nat) (w : World) (h : Byt w w.heap.size A n) (hn : n ≤ c) (hc : c ≤ maxLen) :
    Calls Try.prog 89 #[.slice A n c] w (DrG w) := by
  have hO := Lib.hid (l40Open_any A n c _ h hn hc)
  obtain ⟨i0, hi0, hi1, hi2, hi3⟩ := info_parts info_fac
  clear h hc
  go_enter Try.func89, Try.ntmps89
  go_wp2_with fail
  refine (hO.out).mono ?_
  rintro e w1 ⟨rfl, ⟨n', hn', hr1⟩, hb1⟩
  have hz1 := hr1.lt
  have kr1 := Lib.hid hr1
  have kb1 := Lib.hid hb1
  clear hr1 hb1
  go_wp2_with fail
  refine (l10Draw_any w.heap.size A n' c 0 w.heap.size w1 kr1.out (by omega) hn' (by omega)).mono ?_
  rintro e w2 ⟨v, Fs, vs, p', rfl, hR, hl, hbd, hp, hr2, hc2⟩
  obtain ⟨Al, cl, rfl, _, _⟩ := hR.form
  have kR2 := Lib.hid hR
  have kr2 := Lib.hid hr2
  have kC2 := Lib.hid hc2
  have kbd := Lib.hid hbd
  clear hR hr2 hc2 hbd
  go_wp2_with fail
  refine (pick_any w.heap.size A n' c p' w.heap.size 4 _ kr2.out (by omega) hn' (by decide)).mono ?_
  rintro e wr ⟨y, rfl, hy0, hy4, hr3, hc3⟩
  have kr := Lib.hid (show Rdr wr w.heap.size w.heap.size A n' c (p' + 1) from hr3)
  have kC := Lib.hid (kC2.out.trans hc3)
  have kR := Lib.hid (kR2.out.chg hc3 hz1)
  have hRl0 := hz1
  have hzw := kC.out.size
  obtain ⟨m, hm⟩ : ∃ m, Fs.length = m := ⟨_, rfl⟩
  have hmh := Lib.hid hm
  rw [hm] at hl ⊢
  clear hm hr3 hc3 kr2 kC2 kR2
  by_cases h0 : y = 0
  · subst h0
    obtain ⟨q, hq⟩ : ∃ q, p' + 1 = q := ⟨_, rfl⟩
    rw [hq] at kr
    obtain ⟨p', rfl⟩ : ∃ p', q = p' := ⟨_, rfl⟩
    have hpq : q ≤ 3000 := by omega
    clear hq hy0 hy4
    have hN := Lib.hid (show Nums (wr.alloc (.cells #[.int .i64 3, .int .i64 6, .int .i64 9, .int .i64 12, .int .i64 10, .int .i64 5] 3)) wr.heap.size 6 (fun x => 0 ≤ x ∧ x ≤ 15) from Nums.of (Has.new wr 3 #[.int .i64 3, .int .i64 6, .int .i64 9, .int .i64 12, .int .i64 10, .int .i64 5]) (fun i hi => by
      obtain rfl | rfl | rfl | rfl | rfl | rfl : i = 0 ∨ i = 1 ∨ i = 2 ∨ i = 3 ∨ i = 4 ∨ i = 5 := by omega
      all_goals exact ⟨_, rfl, by decide⟩))
    have hra := Lib.hid (kr.out.alloc (by omega) (.cells #[.int .i64 3, .int .i64 6, .int .i64 9, .int .i64 12, .int .i64 10, .int .i64 5] 3))
    have hCa := Lib.hid ((Chg.refl wr w.heap.size).alloc (.cells #[.int .i64 3, .int .i64 6, .int .i64 9, .int .i64 12, .int .i64 10, .int .i64 5] 3))
    have hRlr : w.heap.size < wr.heap.size := by omega
    go_wp2_with fail
    refine (num_any w.heap.size A n' c q w.heap.size wr.heap.size 6 _ (fun x => 0 ≤ x ∧ x ≤ 15) _ hra.out (by omega) hn' (by omega) (by omega) (by simp) (by omega) hN.out).mono ?_
    rintro e w3 ⟨L, rfl, hL, hr3, hc3⟩
    have kr3 := Lib.hid hr3
    have hC3 := hCa.out.trans hc3
    have kC3 := Lib.hid (kC.out.trans hC3)
    have kR3 := Lib.hid (kR.out.chg hC3 hRl0)
    have hz3 := kC3.out.size
    clear hr3 hc3 hC3 hN hra hCa
    go_wp2_with fail
    refine (l8Draw_full w.heap.size A n' c (q + 1) w.heap.size L w3 kr3.out (by omega) hn' (by omega) hL).mono ?_
    rintro e w4 ⟨u1, u2, F, p4, rfl, hvo, hV, hl1, hl2, hl3, hp4, hr4, hc4⟩
    obtain ⟨U1, q1, rfl, _, _⟩ := hV.1.form
    obtain ⟨U2, q2, rfl, _, _⟩ := hV.2.1.form
    have hC4 := kC3.out.trans hc4
    have hR4 := kR3.out.chg hc4 hRl0
    have hal : Below w4.heap.size w4 (w4.alloc (.cells #[.slice U1 F.vs.length q1, .slice U2 F.ns.length q2] 44)) := (Below.refl _ _).alloc (Nat.le_refl _) _
    have hR5 := Lib.hid (hR4.below hal)
    have hV5 := Lib.hid ((hV.le (show w1.heap.size ≤ w3.heap.size from hz3)).below hal)
    have hr5 := Lib.hid (hr4.alloc (by have := hc4.size; omega) (.cells #[.slice U1 F.vs.length q1, .slice U2 F.ns.length q2] 44))
    have hC5 := Lib.hid (hC4.alloc (.cells #[.slice U1 F.vs.length q1, .slice U2 F.ns.length q2] 44))
    have hO5 := Lib.hid (show (w4.alloc (.cells #[.slice U1 F.vs.length q1, .slice U2 F.ns.length q2] 44)).ownsRow w1.heap.size 44 2 (.slice Al m cl) m vs from by have h1 := hR5.out.1; rwa [hmh.out] at h1)
    have hnw := Lib.hid (World.news_of_block (Has.new w4 44 #[.slice U1 F.vs.length q1, .slice U2 F.ns.length q2]))
    have hsz5 := Lib.hid hC5.out.size
    have hm5 : m ≤ 6 := by omega
    have hvoh := Lib.hid hvo
    clear hV hr4 hc4 hC4 hR4 hal hvo
    go_wp2_with (at_builtin; refine wpList_append_lies _ rfl (.tmp 12) (.tmp 18) 25 rfl w1.heap.size 44 i0 _ 2 48 Try.underlying25 hi0 hi1 hi2 hi3 rfl (by decide) (.slice Al m cl) m vs rfl (by exact hO5.out) ⟨w4.heap.size, 0, none⟩ 1 1 [.slice U1 F.vs.length q1, .slice U2 F.ns.length q2] rfl rfl (by exact hnw.out) (by simp [Value.oneCell']) (by omega) (by unfold maxLen; omega) (by omega) (by exact hsz5.out) (w4.heap.size + 1) (by simp) ?_; intro gr cr2 w6 hown6 hgrow6 hat6 hlt6)
    have hbk : ∀ b, (Value.slice Al m cl).ownBlock = some b → w1.heap.size ≤ b := fun b hb => (World.ownsRow.lt hO5.out b hb).1
    have hR6 := Lib.hid (RowsF.append_ hR5.out hV5.out (by rw [hmh.out]; exact hown6) (by rw [hmh.out]; exact hgrow6))
    have hr6 := Lib.hid (hr5.out.grown hgrow6 (fun b hb => ⟨by have := hbk b hb; omega, by have := hbk b hb; omega⟩) (by have := hsz5.out; omega))
    have hC6 := Lib.hid (hC5.out.grown hgrow6 hbk)
    clear hown6 hgrow6 hat6 hbk
    have kB := Lib.hid (kb1.out.trans (hC6.out.below (B := w.heap.size) (Nat.le_refl _) (by omega)))
    have kR7 := Lib.hid (RowsF.le hR6.out (show w.heap.size ≤ w1.heap.size by omega))
    go_wp2_with fail
    go_ret
    exact ⟨_, Fs ++ [F], _, rfl, by exact kR7.out, by rw [List.length_append, List.length_singleton, hmh.out]; omega, add_bd kbd.out (by omega) (by omega) ⟨L, hL, hvoh.out⟩, kB.out⟩
  · have hyb : (y == 0) = false := by simpa using h0
    have kB := Lib.hid (kb1.out.trans (kC.out.below (B := w.heap.size) (Nat.le_refl _) (by omega)))
    have kR7 := Lib.hid (RowsF.le kR.out (show w.heap.size ≤ w1.heap.size by omega))
    clear h0
    go_wp2_with fail
    go_ret
    exact ⟨_, Fs, vs, rfl, by have := kR7.out; rwa [hmh.out] at this, by rw [hmh.out]; omega, kbd.out, kB.out⟩
theorem DrawTreesOf_any (A : Option Addr) (n c : Nat) (w : World) (h : Byt w w.heap.size A n) (hn : n ≤ c) (hc : c ≤ maxLen) :
    Calls Try.prog 38 #[.slice A n c] w (DrG w) := by
  have hT := Lib.hid (DrawTreeOk_any A n c w h hn hc)
  clear h hc
  go_enter Try.func38, Try.ntmps38
  go_wp2_with fail
  refine (hT.out).mono ?_
  rintro e w1 ⟨v, Fs, vs, rfl, hR, hl, hg, hb⟩
  have kR := Lib.hid hR
  have kg := Lib.hid hg
  have kb := Lib.hid hb
  clear hR hg hb
  go_wp2_with fail
  go_ret
  exact ⟨v, Fs, vs, rfl, kR.out, hl, kg.out, kb.out⟩
end Go.Proofs.Ytdpeaabdpolmoaa

namespace Go.Proofs.Ytdpeaabdpolmoaa
set_option maxRecDepth 100000
set_option linter.unusedVariables false
open Go.RowKit
def prsL (Fs : List Fac) : List Int := (Fs.filter fun F => F.vs.length == 2).map fun F => setOf F.vs
def sa (s : Int) : Nat := (vAt (over s) 0).toNat
def sb (s : Int) : Nat := (vAt (over s) 1).toNat
def addS (g : Gr) (s : Int) : Option Gr := if g.root (sa s) = g.root (sb s) then none else some (g.put (sa s) (sb s))
def prG (ss : List Int) : Option Gr := ss.foldl (fun o s => o.bind fun g => addS g s) (some Gr.none_)
def lenOk (F : Fac) : Bool := inB (F.vs.length : Int) 1 2
theorem over_set {F : Fac} (h : facOk 9 F = true) : over (setOf F.vs) = F.vs := by
  obtain ⟨L, h1, h2, _⟩ := fac_set h
  rw [h2, h1]
theorem addF_pair {F : Fac} (h : facOk 9 F = true) (h2 : F.vs.length = 2) (g : Gr) : addF g F = addS g (setOf F.vs) := by
  unfold addF addS sa sb Fac.a Fac.b
  rw [over_set h, if_neg (by omega), if_pos h2]
theorem grL_fold : ∀ (l : List Fac) (o : Option Gr), (∀ F ∈ l, facOk 9 F = true) → l.all lenOk = true → l.foldl (fun o F => o.bind fun g => addF g F) o = (prsL l).foldl (fun o s => o.bind fun g => addS g s) o
  | [], o, _, _ => rfl
  | F :: r, o, h, hl => by
    rw [List.all_cons, Bool.and_eq_true] at hl
    have ih := fun o => grL_fold r o (fun G hG => h G (List.mem_cons_of_mem _ hG)) hl.2
    have h1 := inB_iff.1 hl.1
    unfold prsL
    rw [List.foldl_cons]
    by_cases h2 : F.vs.length = 2
    · rw [List.filter_cons_of_pos (by simp [h2]), List.map_cons, List.foldl_cons, ih]
      have e : (fun g => addF g F) = fun g => addS g (setOf F.vs) := funext fun g => addF_pair (h F List.mem_cons_self) h2 g
      rw [e]
      rfl
    · rw [List.filter_cons_of_neg (by simp [h2]), ih]
      have e : (fun g => addF g F) = fun g => some g := funext fun g => by unfold addF; rw [if_pos (by omega)]
      rw [e]
      cases o <;> rfl
theorem grL_bad : ∀ (l : List Fac) (o : Option Gr), l.all lenOk = false → l.foldl (fun o F => o.bind fun g => addF g F) o = none
  | [], _, h => by cases h
  | F :: r, o, h => by
    rw [List.foldl_cons]
    rw [List.all_cons, Bool.and_eq_false_iff] at h
    rcases h with h | h
    · have e : (fun g => addF g F) = fun _ => none := funext fun g => by
        unfold addF
        have h3 : ¬ inB (F.vs.length : Int) 1 2 = true := by unfold lenOk at h; rw [h]; decide
        rw [inB_iff] at h3
        rw [if_neg (by omega), if_neg (by omega)]
      rw [e]
      have e2 : (o.bind fun _ => (none : Option Gr)) = none := by cases o <;> rfl
      rw [e2]
      exact grL_none r
    · exact grL_bad r _ h
theorem grL_sets {Fs : List Fac} (h : ∀ F ∈ Fs, facOk 9 F = true) (hl : Fs.all lenOk = true) : grL Fs = prG (prsL Fs) := grL_fold Fs _ h hl
theorem prsL_take {Fs : List Fac} {k : Nat} {F : Fac} (h : Fs[k]? = some F) : prsL (Fs.take (k + 1)) = prsL (Fs.take k) ++ if F.vs.length = 2 then [setOf F.vs] else [] := by
  obtain ⟨hl, he⟩ := List.getElem?_eq_some_iff.1 h
  unfold prsL
  rw [List.take_succ_eq_append_getElem hl, he, List.filter_append, List.map_append]
  congr 1
  by_cases h2 : F.vs.length = 2
  · rw [if_pos h2, List.filter_cons_of_pos (by simp [h2])]; rfl
  · rw [if_neg h2, List.filter_cons_of_neg (by simp [h2])]; rfl
theorem prsL_len (Fs : List Fac) (k : Nat) : (prsL (Fs.take k)).length ≤ k := by
  unfold prsL
  rw [List.length_map]
  have h1 := List.length_filter_le (fun F : Fac => F.vs.length == 2) (Fs.take k)
  rw [List.length_take] at h1
  omega
theorem prsL_mem {Fs : List Fac} (h : ∀ F ∈ Fs, facOk 9 F = true) {s : Int} (hs : s ∈ prsL Fs) : (0 ≤ s ∧ s ≤ 15) ∧ ∃ F ∈ Fs, F.vs.length = 2 ∧ s = setOf F.vs ∧ ∃ a b : Fin 4, a ≠ b ∧ over s = [(a.val : Int), (b.val : Int)] ∧ sa s = a.val ∧ sb s = b.val := by
  unfold prsL at hs
  obtain ⟨F, hF, rfl⟩ := List.mem_map.1 hs
  obtain ⟨h1, h2⟩ := List.mem_filter.1 hF
  have h3 : F.vs.length = 2 := by simpa using h2
  have h4 := h F h1
  obtain ⟨L, e1, e2, _⟩ := fac_set h4
  obtain ⟨a, b, hab, hv, ha, hb⟩ := pair_two h4 h3
  refine ⟨by rw [e2]; omega, F, h1, h3, rfl, a, b, hab, by rw [over_set h4, hv], ?_, ?_⟩
  · unfold sa; rw [over_set h4]; exact ha
  · unfold sb; rw [over_set h4]; exact hb
set_option maxHeartbeats 1000000 in
theorem l10Pairs_any (A : Option Addr) (n c : Nat) (Fs : List Fac) (w : World) (h : FLst w w.heap.size A n Fs) (hn : n ≤ 1000) (hF : ∀ F ∈ Fs, facOk 9 F = true) :
    Calls Try.prog 80 #[.slice A n c] w (Wtsd w (prsL Fs)) := by
  have hB0 : Below w.heap.size w (w.alloc (.cells #[] 3)) := (Below.refl _ _).alloc (Nat.le_refl _) _
  have hN := Lib.hid (show IOwn (w.alloc (.cells #[] 3)) w.heap.size (.slice (some ⟨w.heap.size, 0, none⟩) 0 0) [] from
    ⟨rfl, .inr ⟨w.heap.size, 0, #[], rfl, Nat.le_refl _, Has.new w _ _, Nat.le_refl _, Nat.zero_le _, rfl, rfl⟩⟩)
  obtain ⟨i0, hi0, hz0, hz1', hz2'⟩ := info_parts info_int
  have hI := Lib.hid h
  have hl := h.1
  have hFh := Lib.hid hF
  clear h hF
  go_enter Try.func80, Try.ntmps80
  go_wp2_with fail
  go_loopg [3, 4] n (fun gn o v wr => ∃ k : Nat, k ≤ n ∧ gn = n - k ∧ v = .int .i64 k ∧ IOwn wr w.heap.size o (prsL (Fs.take k)) ∧ Below w.heap.size w wr)
  case atStart => exact ⟨0, Nat.zero_le _, rfl, rfl, hN.out, hB0⟩
  case round =>
    obtain ⟨k, hk, hgn, rfl, hO, hb⟩ := hrel
    have hgk : gk = n - k := hgn
    obtain ⟨Ao, co, hvo, _, _⟩ := hO.form
    subst hvo
    have hz := hb.size
    have hOh := Lib.hid hO
    have hbh := Lib.hid hb
    have hol : (prsL (Fs.take k)).length ≤ 1000 := by have := prsL_len Fs k; omega
    clear hgn hO hb hN hB0
    by_cases hlt : k < n
    · obtain ⟨gl, off, F, B1, m1, e1, B2, m2, e2, rfl, hgl, hFk, cl1, cl2, hFW⟩ := (hI.out.below hbh.out).at_ hlt
      have hk0 : (0 : Int) ≤ (k : Int) := by omega
      have hk1 : (k : Int) < (n : Int) := by omega
      have hst := Lib.hid (prsL_take hFk)
      have hok := hFh.out F (List.mem_of_getElem? hFk)
      obtain ⟨q1, q2, q3, q4, q5⟩ := fac_parts hok
      have hm1 := hFW.1.1
      have hm4 : m1 ≤ 4 := by omega
      have cS := Lib.hid (fun wx hx => l8Set_any B1 m1 e1 F.vs wx hx (by unfold maxLen; omega) q5)
      have hVw := Lib.hid (hFW.1.more hz)
      clear hFk hok q1 q2 q3 q4 q5 hFW
      by_cases h2 : m1 = 2
      · subst h2
        obtain ⟨s, hs⟩ : ∃ s, setOf F.vs = s := ⟨_, rfl⟩
        rw [hs] at cS hst
        have hE := Lib.hid (show prsL (Fs.take (k + 1)) = prsL (Fs.take k) ++ [s] by rw [hst.out, if_pos hm1])
        have hO3 := Lib.hid (hOh.out.alloc (.cells #[.int .i64 s] 3))
        have hnw := Lib.hid (new_one wr (.int .i64 s) 3)
        have hB3 := Lib.hid (hbh.out.alloc hz (.cells #[.int .i64 s] 3))
        clear hs hst hm1
        generalize prsL (Fs.take k) = ds at *
        go_wp2_with (first
          | (go_at_call 128; refine (cS.out wr hVw.out).mono ?_; rintro e w' ⟨rfl, rfl⟩)
          | (at_builtin; refine wpList_append_lies _ rfl (.tmp 19) (.tmp 26) 29 rfl w.heap.size 3 i0 _ 1 8 Try.underlying29 hi0 hz0 hz1' hz2' rfl (by decide) (.slice Ao ds.length co) ds.length (ints ds) rfl (by exact hO3.out) ⟨wr.heap.size, 0, none⟩ 1 1 [.int .i64 s] rfl rfl (by exact hnw.out) (by simp [Value.oneCell']) (by omega) (by unfold maxLen; omega) (by omega) (by exact hB3.out.size) (wr.heap.size + 1) (by simp) ?_; intro gr cr2 w4 hown4 hgrow4 hat4 hlt4))
        have hA := Lib.hid (IOwn.append_ (news := [s]) hO3.out hown4 hgrow4 hB3.out (by exact hB3.out.size))
        clear hown4 hgrow4 hat4
        go_wp2_with fail
        go_roundg (n - (k + 1))
        case measure => omega
        case rel => exact ⟨k + 1, by omega, rfl, by go_num, by rw [hE.out]; exact hA.out.1, hA.out.2⟩
      · have hE := Lib.hid (show prsL (Fs.take (k + 1)) = prsL (Fs.take k) by rw [hst.out, if_neg (by omega), List.append_nil])
        have hm2 : ((m1 : Int) == 2) = false := by rw [beq_eq_false_iff_ne]; omega
        clear hst hm1
        go_wp2_with fail
        go_roundg (n - (k + 1))
        case measure => omega
        case rel => exact ⟨k + 1, by omega, rfl, by go_num, by rw [hE.out]; exact hOh.out, hbh.out⟩
    · obtain rfl : k = n := by omega
      have hfull : Fs.take k = Fs := List.take_of_length_le (by omega)
      have hFin := Lib.hid (show Wtsd w (prsL Fs) (.returned (.slice Ao (prsL (Fs.take k)).length co)) wr from ⟨_, rfl, by have := hOh.out; rw [hfull] at this ⊢; exact this, hbh.out⟩)
      clear hOh hbh hfull
      go_wp2_with fail
      go_ret
      exact hFin.out
end Go.Proofs.Ytdpeaabdpolmoaa
