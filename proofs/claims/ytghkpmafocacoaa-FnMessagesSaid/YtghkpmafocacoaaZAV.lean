/- Parts of the proof: Do. -/
import Derived.BigQuiet
import Derived.Test.YtghkpmafocacoaaZAU
namespace Go.Proofs.Ytghkpmafocacoaa
set_option maxRecDepth 100000
set_option linter.unusedVariables false
open Go.RowKit
theorem overIn16 : ∀ L : Fin 16, ∀ x ∈ over (L.val : Int), 0 ≤ x ∧ x ≤ 3 := by decide +kernel
theorem over_pair : ∀ L : Fin 16, (over (L.val : Int)).length = 2 → ∃ a b : Fin 4, over (L.val : Int) = [(a.val : Int), (b.val : Int)] := by decide +kernel
theorem fin16L {L : Int} (h : 0 ≤ L ∧ L ≤ 15) : ∃ l : Fin 16, L = (l.val : Int) := ⟨⟨L.toNat, by omega⟩, by show L = (L.toNat : Int); omega⟩
theorem Rdr.keptW {w w' : World} {B R : Nat} {A : Option Addr} {n c p : Nat} (h : Rdr w B R A n c p) (hb : Below w.heap.size w w') (hB : B ≤ w.heap.size) : Rdr w' B R A n c p :=
  ⟨h.1.kept hb, h.2.1, h.2.2.keep (hb.mono hB)⟩
theorem gdf_in {Fs : List Fac} (h : ∀ F ∈ Fs, GdF F) : ∀ F ∈ Fs, F.vs.length ≤ 5 ∧ ∀ v ∈ F.vs, 0 ≤ v ∧ v ≤ 3 := fun F hF => by
  obtain ⟨h1, _, L, hL, hv⟩ := h F hF
  obtain ⟨l, rfl⟩ := fin16L hL
  refine ⟨h1, fun v hm => ?_⟩
  rw [hv] at hm
  exact overIn16 l v hm
theorem prs_gd {Fs : List Fac} (h : ∀ F ∈ Fs, GdF F) {s : Int} (hs : s ∈ prsL Fs) : (0 ≤ s ∧ s ≤ 15) ∧ ∃ a b : Fin 4, over s = [(a.val : Int), (b.val : Int)] := by
  unfold prsL at hs
  obtain ⟨F, hF, rfl⟩ := List.mem_map.1 hs
  obtain ⟨hm, h2⟩ := List.mem_filter.1 hF
  obtain ⟨_, _, L, hL, hv⟩ := h F hm
  obtain ⟨l, rfl⟩ := fin16L hL
  rw [beq_iff_eq, hv] at h2
  rw [hv, (over_ok l).2.1]
  exact ⟨hL, over_pair l h2⟩
theorem l10Pairs_set (A : Option Addr) (n c : Nat) (Fs : List Fac) (w : World) (h : FLst w w.heap.size A n Fs) (hn : n ≤ 1000) (hF : ∀ F ∈ Fs, F.vs.length ≤ 5 ∧ ∀ v ∈ F.vs, 0 ≤ v ∧ v ≤ 3) :
    Calls Try.prog 86 #[.slice A n c] w (Wtsd w (prsL Fs)) := by
  have hB0 : Below w.heap.size w (w.alloc (.cells #[] 3)) := (Below.refl _ _).alloc (Nat.le_refl _) _
  have hN := Lib.hid (show IOwn (w.alloc (.cells #[] 3)) w.heap.size (.slice (some ⟨w.heap.size, 0, none⟩) 0 0) [] from
    ⟨rfl, .inr ⟨w.heap.size, 0, #[], rfl, Nat.le_refl _, Has.new w _ _, Nat.le_refl _, Nat.zero_le _, rfl, rfl⟩⟩)
  obtain ⟨i0, hi0, hz0, hz1', hz2'⟩ := info_parts info_int
  have hI := Lib.hid h
  have hl := h.1
  have hFh := Lib.hid hF
  clear h hF
  go_enter Try.func86, Try.ntmps86
  go_wp2_with fail
  go_loopg [3, 4] n (fun gn o v wr => ∃ k : Nat, k ≤ n ∧ gn = n - k ∧ v = .int .i64 k ∧ IOwn wr w.heap.size o (prsL (Fs.take k)) ∧ Below w.heap.size w wr)
  case atStart => exact ⟨0, Nat.zero_le _, rfl, rfl, hN.out, hB0⟩
  case round =>
    obtain ⟨k, hk, hgn, rfl, hO, hb⟩ := hrel
    have hgk : gk = n - k := hgn
    obtain ⟨Ao, co, hvo, _, _⟩ := hO.form
    subst hvo
    have hz := hb.size
    have hOh := Lib.hid hO
    have hbh := Lib.hid hb
    have hol : (prsL (Fs.take k)).length ≤ 1000 := by have := prsL_len Fs k; omega
    clear hgn hO hb hN hB0
    by_cases hlt : k < n
    · obtain ⟨gl, off, F, B1, m1, e1, B2, m2, e2, rfl, hgl, hFk, cl1, cl2, hFW⟩ := (hI.out.below hbh.out).at_ hlt
      have hk0 : (0 : Int) ≤ (k : Int) := by omega
      have hk1 : (k : Int) < (n : Int) := by omega
      have hst := Lib.hid (prsL_take hFk)
      have hok := hFh.out F (List.mem_of_getElem? hFk)
      obtain ⟨q4, q5⟩ := hok
      have hm1 := hFW.1.1
      have hm4 : m1 ≤ 5 := by omega
      have cS := Lib.hid (fun wx hx => l8Set_any B1 m1 e1 F.vs wx hx (by unfold maxLen; omega) q5)
      have hVw := Lib.hid (hFW.1.more hz)
      clear hFk q4 q5 hFW
      by_cases h2 : m1 = 2
      · subst h2
        obtain ⟨s, hs⟩ : ∃ s, setOf F.vs = s := ⟨_, rfl⟩
        rw [hs] at cS hst
        have hE := Lib.hid (show prsL (Fs.take (k + 1)) = prsL (Fs.take k) ++ [s] by rw [hst.out, if_pos hm1])
        have hO3 := Lib.hid (hOh.out.alloc (.cells #[.int .i64 s] 3))
        have hnw := Lib.hid (new_one wr (.int .i64 s) 3)
        have hB3 := Lib.hid (hbh.out.alloc hz (.cells #[.int .i64 s] 3))
        clear hs hst hm1
        generalize prsL (Fs.take k) = ds at *
        go_wp2_with (first
          | (go_at_call 138; refine (cS.out wr hVw.out).mono ?_; rintro e w' ⟨rfl, rfl⟩)
          | (at_builtin; refine wpList_append_lies _ rfl (.tmp 19) (.tmp 26) 31 rfl w.heap.size 3 i0 _ 1 8 Try.underlying31 hi0 hz0 hz1' hz2' rfl (by decide) (.slice Ao ds.length co) ds.length (ints ds) rfl (by exact hO3.out) ⟨wr.heap.size, 0, none⟩ 1 1 [.int .i64 s] rfl rfl (by exact hnw.out) (by simp [Value.oneCell']) (by omega) (by unfold maxLen; omega) (by omega) (by exact hB3.out.size) (wr.heap.size + 1) (by simp) ?_; intro gr cr2 w4 hown4 hgrow4 hat4 hlt4))
        have hA := Lib.hid (IOwn.append_ (news := [s]) hO3.out hown4 hgrow4 hB3.out (by exact hB3.out.size))
        clear hown4 hgrow4 hat4
        go_wp2_with fail
        go_roundg (n - (k + 1))
        case measure => omega
        case rel => exact ⟨k + 1, by omega, rfl, by go_num, by rw [hE.out]; exact hA.out.1, hA.out.2⟩
      · have hE := Lib.hid (show prsL (Fs.take (k + 1)) = prsL (Fs.take k) by rw [hst.out, if_neg (by omega), List.append_nil])
        have hm2 : ((m1 : Int) == 2) = false := by rw [beq_eq_false_iff_ne]; omega
        clear hst hm1
        go_wp2_with fail
        go_roundg (n - (k + 1))
        case measure => omega
        case rel => exact ⟨k + 1, by omega, rfl, by go_num, by rw [hE.out]; exact hOh.out, hbh.out⟩
    · obtain rfl : k = n := by omega
      have hfull : Fs.take k = Fs := List.take_of_length_le (by omega)
      have hFin := Lib.hid (show Wtsd w (prsL Fs) (.returned (.slice Ao (prsL (Fs.take k)).length co)) wr from ⟨_, rfl, by have := hOh.out; rw [hfull] at this ⊢; exact this, hbh.out⟩)
      clear hOh hbh hfull
      go_wp2_with fail
      go_ret
      exact hFin.out
/-- A drawn list of factors and two numbers. -/
def DrGM (w : World) (e : Ending) (w' : World) : Prop :=
  ∃ (v : Value) (Fs : List Fac) (vs : List Value) (f t : Int), e = .returned (.tuple #[v, .int .i64 f, .int .i64 t]) ∧ ((-1 ≤ f ∧ f ≤ 4) ∧ (-1 ≤ t ∧ t ≤ 4)) ∧ RowsF w' w.heap.size v Fs vs ∧ Fs.length ≤ 7 ∧ (∀ F ∈ Fs, GdF F) ∧ Below w.heap.size w w'
set_option maxHeartbeats 2000000 in
theorem DrawMessageOf_any (A : Option Addr) (n c : Nat) (w : World) (h : Byt w w.heap.size A n) (hn : n ≤ c) (hc : c ≤ maxLen) :
    Calls Try.prog 43 #[.slice A n c] w (DrGM w) := by
  have hO := Lib.hid (l40Open_any A n c _ h hn hc)
  clear h hc
  go_enter Try.func43, Try.ntmps43
  go_wp2_with fail
  refine (hO.out).mono ?_
  rintro e w1 ⟨rfl, ⟨n', hn', hr1⟩, hb1⟩
  have hz1 := hr1.lt
  have kr1 := Lib.hid hr1
  have kb1 := Lib.hid hb1
  clear hr1 hb1
  go_wp2_with fail
  refine (l10Draw_any w.heap.size A n' c 0 w.heap.size w1 kr1.out (by omega) hn' (by omega)).mono ?_
  rintro e w2 ⟨v, Fs, vs, p', rfl, hR, hl, hbd, hp, hr2, hc2⟩
  obtain ⟨Al, cl, rfl, _, _⟩ := hR.form
  have hF2 := hR.flst rfl
  have cP := Lib.hid (l10Pairs_set Al Fs.length cl Fs w2 hF2 (by omega) (gdf_in hbd))
  have hpg := Lib.hid (fun s (hs : s ∈ prsL Fs) => prs_gd hbd hs)
  have hz2 := hc2.size
  have kb2 := Lib.hid (kb1.out.trans (hc2.below (B := w.heap.size) (Nat.le_refl _) (by omega)))
  have kR2 := Lib.hid hR
  have kr2 := Lib.hid hr2
  have kbd := Lib.hid hbd
  have hpl : (prsL Fs).length ≤ Fs.length := by have := prsL_len Fs Fs.length; rwa [List.take_of_length_le (Nat.le_refl _)] at this
  obtain ⟨m, hm⟩ : ∃ m, Fs.length = m := ⟨_, rfl⟩
  have hmh := Lib.hid hm
  rw [hm] at hl hpl cP ⊢
  clear hm hR hr2 hc2 hbd hF2 kr1 kb1
  go_wp2_with fail
  refine (cP.out).mono ?_
  rintro e w3 ⟨v3, rfl, hI, hb3⟩
  generalize prsL Fs = ps at *
  obtain ⟨Ap, cp, rfl, _, _⟩ := hI.form
  have hz3 := hb3.size
  have kR3 := Lib.hid (kR2.out.below hb3)
  have kr3 := Lib.hid (kr2.out.keptW hb3 (by omega))
  have kb3 := Lib.hid (kb2.out.trans (hb3.mono (show w.heap.size ≤ w2.heap.size by omega)))
  have kI3 := Lib.hid hI
  obtain ⟨q, hq⟩ : ∃ q, ps.length = q := ⟨_, rfl⟩
  have hqh := Lib.hid hq
  rw [hq] at hpl ⊢
  clear hI hb3 kR2 kr2 kb2 cP hq
  by_cases hq0 : q = 0
  · subst hq0
    go_wp2_with fail
    refine (pick_any w.heap.size A n' c (p') w.heap.size 5 _ kr3.out (by omega) hn' (by decide)).mono ?_
    rintro e w5 ⟨f, rfl, hf0, hf5, hr5, hc5⟩
    have hz5 := hc5.size
    have kr5 := Lib.hid hr5
    have kb5 := Lib.hid (kb3.out.trans (hc5.below (B := w.heap.size) (Nat.le_refl _) (by omega)))
    have kR5 := Lib.hid (kR3.out.chg hc5 hz1)
    clear hr5 hc5 kr3 kb3 kR3
    go_wp2_with fail
    refine (pick_any w.heap.size A n' c (p' + 1) w.heap.size 5 _ kr5.out (by omega) hn' (by decide)).mono ?_
    rintro e w6 ⟨t, rfl, ht0, ht5, hr6, hc6⟩
    have kb6 := Lib.hid (kb5.out.trans (hc6.below (B := w.heap.size) (Nat.le_refl _) (by omega)))
    have kR6 := Lib.hid (RowsF.le (kR5.out.chg hc6 hz1) (show w.heap.size ≤ w1.heap.size by omega))
    clear hr6 hc6 kr5 kb5 kR5
    go_wp2_with fail
    go_ret3
    exact ⟨_, Fs, vs, f, t - 1, rfl, ⟨⟨by omega, by omega⟩, ⟨by omega, by omega⟩⟩, by have := kR6.out; rwa [hmh.out] at this, by rw [hmh.out]; omega, kbd.out, kb6.out⟩
  · have hqb : ((q : Int) > 0) := by omega
    have hqd : decide ((q : Int) > 0) = true := decide_eq_true hqb
    go_wp2_with fail
    refine (pick_any w.heap.size A n' c p' w.heap.size 6 _ kr3.out (by omega) hn' (by decide)).mono ?_
    rintro e w4 ⟨y, rfl, hy0, hy4, hr4, hc4⟩
    have hz4 := hc4.size
    have kr4 := Lib.hid hr4
    have kb4 := Lib.hid (kb3.out.trans (hc4.below (B := w.heap.size) (Nat.le_refl _) (by omega)))
    have kI4 := Lib.hid (show IOwn w4 w2.heap.size (.slice Ap q cp) ps from by have := kI3.out; rw [hqh.out] at this; exact owns_chgD this hc4 (by omega))
    have kR4 := Lib.hid (kR3.out.chg hc4 hz1)
    clear hr4 hc4 kr3 kb3 kI3 kR3
    by_cases hy : 0 < y
    · have hyb : decide (0 < y) = true := decide_eq_true hy
      go_wp2_with fail
      refine (pick_any w.heap.size A n' c (p' + 1) w.heap.size (q : Int) _ kr4.out (by omega) hn' (by omega)).mono ?_
      rintro e w5 ⟨z, rfl, hz0, hzq, hr5, hc5⟩
      obtain ⟨j, rfl⟩ : ∃ j : Nat, z = (j : Int) := ⟨z.toNat, by omega⟩
      have hz5 := hc5.size
      have kr5 := Lib.hid hr5
      have kb5 := Lib.hid (kb4.out.trans (hc5.below (B := w.heap.size) (Nat.le_refl _) (by omega)))
      have kI5 := (show IOwn w5 w2.heap.size (.slice Ap ps.length cp) ps from by have := kI4.out; rw [← hqh.out] at this; exact owns_chgD this hc5 (by omega)).lst
      have kR5 := Lib.hid (kR4.out.chg hc5 hz1)
      rw [hqh.out] at kI5
      obtain ⟨g, off, eA, hg, hcell⟩ := kI5.2 (by omega)
      have hjl : j < ps.length := by rw [hqh.out]; omega
      have hcj := hcell j _ (List.getElem?_eq_getElem hjl)
      obtain ⟨hs16, a, b, hab⟩ := hpg.out (ps[j]) (List.getElem_mem hjl)
      obtain ⟨s, hs⟩ : ∃ s, ps[j] = s := ⟨_, rfl⟩
      rw [hs] at hcj hs16 hab
      subst eA
      have habh := Lib.hid hab
      clear hr5 hc5 kr4 kb4 kI4 kR4 kI5 hcell hs hab
      go_wp2_with fail
      refine (l8Over_any s w5 hs16).mono ?_
      rintro e w6 ⟨v6, rfl, hI6, hb6⟩
      obtain ⟨Ao, co, rfl, _, _⟩ := hI6.form
      have hz6 := hb6.size
      have hI6' := hI6
      rw [habh.out] at hI6'
      have kI6 := Lib.hid hI6'
      have kR6 := Lib.hid (kR5.out.below hb6)
      have kr6 := Lib.hid (kr5.out.keptW hb6 (by omega))
      have kb6 := Lib.hid (kb5.out.trans (hb6.mono (show w.heap.size ≤ w5.heap.size by omega)))
      have hl2 : (over s).length = 2 := by rw [habh.out]; rfl
      rw [hl2]
      clear hI6 hI6' hb6 kr5 kb5 kR5 hl2 hcj
      go_wp2_with fail
      refine (pick_any w.heap.size A n' c (p' + 1 + 1) w.heap.size 2 _ kr6.out (by omega) hn' (by decide)).mono ?_
      rintro e w7 ⟨k, rfl, hk0, hk2, hr7, hc7⟩
      have kI7 := (show IOwn w7 w5.heap.size (.slice Ao 2 co) [(a.val : Int), (b.val : Int)] from owns_chgD kI6.out hc7 (by omega)).lst
      have kb7 := Lib.hid (kb6.out.trans (hc7.below (B := w.heap.size) (Nat.le_refl _) (by omega)))
      have kR7 := Lib.hid (RowsF.le (kR6.out.chg hc7 hz1) (show w.heap.size ≤ w1.heap.size by omega))
      obtain ⟨g2, off2, eA, hg2, hcell⟩ := kI7.2 (by omega)
      have hca := hcell 0 _ rfl
      rw [Nat.add_zero] at hca
      have hcb := hcell 1 _ rfl
      subst eA
      obtain ⟨a, ha⟩ := a
      obtain ⟨b, hb⟩ := b
      simp only at hca hcb
      clear hr7 hc7 kr6 kb6 kI6 kR6 kI7 hcell
      obtain rfl | rfl : k = 0 ∨ k = 1 := by omega
      · go_wp2_with fail
        go_quiet (fail)
        go_wp2_with fail
        go_ret3
        exact ⟨_, Fs, vs, (a : Int), (b : Int), rfl, ⟨⟨by omega, by omega⟩, ⟨by omega, by omega⟩⟩, by have h7 := kR7.out; rw [hmh.out] at h7; exact h7.below (below_drewN (Below.refl _ _) _), by rw [hmh.out]; omega, kbd.out, below_drewN kb7.out _⟩
      · go_wp2_with fail
        go_quiet (fail)
        go_wp2_with fail
        go_ret3
        exact ⟨_, Fs, vs, (b : Int), (a : Int), rfl, ⟨⟨by omega, by omega⟩, ⟨by omega, by omega⟩⟩, by have h7 := kR7.out; rw [hmh.out] at h7; exact h7.below (below_drewN (Below.refl _ _) _), by rw [hmh.out]; omega, kbd.out, below_drewN kb7.out _⟩
    · obtain rfl : y = 0 := by omega
      go_wp2_with fail
      refine (pick_any w.heap.size A n' c (p' + 1) w.heap.size 5 _ kr4.out (by omega) hn' (by decide)).mono ?_
      rintro e w5 ⟨f, rfl, hf0, hf5, hr5, hc5⟩
      have hz5 := hc5.size
      have kr5 := Lib.hid hr5
      have kb5 := Lib.hid (kb4.out.trans (hc5.below (B := w.heap.size) (Nat.le_refl _) (by omega)))
      have kR5 := Lib.hid (kR4.out.chg hc5 hz1)
      clear hr5 hc5 kr4 kb4 kR4
      go_wp2_with fail
      refine (pick_any w.heap.size A n' c (p' + 1 + 1) w.heap.size 5 _ kr5.out (by omega) hn' (by decide)).mono ?_
      rintro e w6 ⟨t, rfl, ht0, ht5, hr6, hc6⟩
      have kb6 := Lib.hid (kb5.out.trans (hc6.below (B := w.heap.size) (Nat.le_refl _) (by omega)))
      have kR6 := Lib.hid (RowsF.le (kR5.out.chg hc6 hz1) (show w.heap.size ≤ w1.heap.size by omega))
      clear hr6 hc6 kr5 kb5 kR5
      go_wp2_with fail
      go_ret3
      exact ⟨_, Fs, vs, f, t - 1, rfl, ⟨⟨by omega, by omega⟩, ⟨by omega, by omega⟩⟩, by have := kR6.out; rwa [hmh.out] at this, by rw [hmh.out]; omega, kbd.out, kb6.out⟩
end Go.Proofs.Ytghkpmafocacoaa
