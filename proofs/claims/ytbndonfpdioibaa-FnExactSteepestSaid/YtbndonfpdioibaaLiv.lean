/- Variables that are over: what is worth ahead of statements does not hang on them; plain functions. -/
import Derived.Test.YtbndonfpdioibaaTrv
import Derived.Test.YtbndonfpdioibaaStZ
namespace Go.Proofs.Ytbndonfpdioibaa
set_option maxRecDepth 100000
set_option linter.unusedVariables false

/-- Sets of variables as bits. -/
def tb (L : Int) (v : Nat) : Bool := L.toNat.testBit v
def bor (a b : Int) : Int := ((a.toNat ||| b.toNat : Nat) : Int)
def bdf (a b : Int) : Int := ((a.toNat &&& (15 - b.toNat) : Nat) : Int)
theorem tb_bor (a b : Int) (v : Nat) : tb (bor a b) v = (tb a v || tb b v) := by
  unfold tb bor
  rw [Int.toNat_natCast, Nat.testBit_or]
theorem bor_bd {a b : Int} (ha : a ≤ 15) (hb : b ≤ 15) : 0 ≤ bor a b ∧ bor a b ≤ 15 := by
  unfold bor
  have h1 : a.toNat < 2 ^ 4 := by omega
  have h2 : b.toNat < 2 ^ 4 := by omega
  have := Nat.or_lt_two_pow h1 h2
  omega
theorem bdf_bd {a b : Int} (ha : a ≤ 15) : 0 ≤ bdf a b ∧ bdf a b ≤ 15 := by
  unfold bdf
  have : a.toNat &&& (15 - b.toNat) ≤ a.toNat := Nat.and_le_left
  omega
theorem tb_bit {n : Int} (h0 : 0 ≤ n) (h3 : n ≤ 3) {v : Nat} (hv : v ≤ 3) : tb (bitN n) v = decide (n = v) := by
  obtain rfl | rfl | rfl | rfl := bit_cases h0 h3
  all_goals
    obtain rfl | rfl | rfl | rfl : v = 0 ∨ v = 1 ∨ v = 2 ∨ v = 3 := by omega
    all_goals decide
theorem tb_bdf {L n : Int} (h0 : 0 ≤ n) (h3 : n ≤ 3) {v : Nat} (hv : v ≤ 3) : tb (bdf L (bitN n)) v = (tb L v && !decide (n = v)) := by
  unfold tb bdf
  rw [Int.toNat_natCast, Nat.testBit_and]
  congr 1
  obtain rfl | rfl | rfl | rfl := bit_cases h0 h3
  all_goals
    obtain rfl | rfl | rfl | rfl : v = 0 ∨ v = 1 ∨ v = 2 ∨ v = 3 := by omega
    all_goals decide
theorem bdf_none {L : Int} (h0 : 0 ≤ L) (h : L ≤ 15) : bdf L 0 = L := by
  obtain ⟨k, rfl⟩ : ∃ k : Nat, L = k := ⟨L.toNat, by omega⟩
  unfold bdf
  rw [Int.toNat_natCast]
  have hk : k < 2 ^ 4 := by omega
  have h15 : k &&& 15 = k := by simpa using Nat.and_two_pow_sub_one_of_lt_two_pow hk
  show ((k &&& 15 : Nat) : Int) = k
  rw [h15]
theorem tb_add {a b : Int} (ha : 0 ≤ a ∧ a ≤ 3) (hb : 0 ≤ b ∧ b ≤ 3) (hne : a ≠ b) {v : Nat} (hv : v ≤ 3) : tb (bitN a + bitN b) v = (decide (a = v) || decide (b = v)) := by
  obtain rfl | rfl | rfl | rfl := bit_cases ha.1 ha.2
  all_goals
    obtain rfl | rfl | rfl | rfl := bit_cases hb.1 hb.2
    all_goals first
      | (exact absurd rfl hne)
      | (obtain rfl | rfl | rfl | rfl : v = 0 ∨ v = 1 ∨ v = 2 ∨ v = 3 := by omega
         all_goals decide)

/-- Two states have the same values of all variables of a set. -/
def agree (L a b : Int) : Prop := ∀ v : Nat, v ≤ 3 → tb L v = true → valueAt a v = valueAt b v
theorem value_bd {st v : Int} (hs : 0 ≤ st ∧ st ≤ 80) (hv : 0 ≤ v ∧ v ≤ 3) : 0 ≤ valueAt st v ∧ valueAt st v ≤ 2 := by
  obtain ⟨k, rfl, hk⟩ := nat4 hv.1 hv.2
  rw [valueAt_yes hs.1 hs.2 rfl hk]
  omega
theorem agree_all {a b : Int} (ha : 0 ≤ a ∧ a ≤ 80) (hb : 0 ≤ b ∧ b ≤ 80) (h : agree 15 a b) : a = b := by
  have key : ∀ v : Nat, v ≤ 3 → a / p3 v % 3 = b / p3 v % 3 := fun v hv => by
    have := h v hv (by
      obtain rfl | rfl | rfl | rfl : v = 0 ∨ v = 1 ∨ v = 2 ∨ v = 3 := by omega
      all_goals decide)
    rwa [valueAt_yes ha.1 ha.2 rfl hv, valueAt_yes hb.1 hb.2 rfl hv] at this
  have k0 := key 0 (by decide)
  have k1 := key 1 (by decide)
  have k2 := key 2 (by decide)
  have k3 := key 3 (by decide)
  simp only [p3] at k0 k1 k2 k3
  omega
theorem agree.symm {L a b : Int} (h : agree L a b) : agree L b a := fun v hv ht => (h v hv ht).symm
theorem agree.mono {L M a b : Int} (h : agree L a b) (hm : ∀ v : Nat, v ≤ 3 → tb M v = true → tb L v = true) : agree M a b := fun v hv ht => h v hv (hm v hv ht)

/-- The variables on which it hangs ahead of a statement. -/
def St.ahead (s : St) (L : Int) : Int := if s.k = 4 ∨ s.k = 5 ∨ (0 ≤ s.sets ∧ tb L s.sets.toNat = true) then bor (bdf L (bitN s.sets)) s.reads else L
def St.live (s : St) (n : Nat) (t : List Int) : Int := if s.k = 6 then bor (s.ahead (t.headD 0)) (bor s.reads (t.getD (min s.b.toNat n) 0)) else s.ahead (t.headD 0)
def lives (asked : Int) : List St → List Int
  | [] => [asked]
  | s :: r => s.live r.length (lives asked r) :: lives asked r
def liveOf (asked : Int) (os : List St) : Int := (lives asked os).headD 0

theorem lives_length (asked : Int) : ∀ os, (lives asked os).length = os.length + 1
  | [] => rfl
  | s :: r => by rw [lives, List.length_cons, lives_length asked r, List.length_cons]
theorem lives_drop (asked : Int) : ∀ (os : List St) (i : Nat), i ≤ os.length → (lives asked os).drop i = lives asked (os.drop i)
  | os, 0, _ => by simp
  | [], i + 1, h => by simp at h
  | s :: r, i + 1, h => by
    rw [lives, List.drop_succ_cons, List.drop_succ_cons]
    exact lives_drop asked r i (by simpa using h)
theorem lives_at (asked : Int) (os : List St) (i : Nat) (h : i ≤ os.length) : (lives asked os)[i]? = some (liveOf asked (os.drop i)) := by
  unfold liveOf
  rw [← lives_drop asked os i h]
  have hl := lives_length asked os
  rw [List.headD_eq_head?_getD, List.head?_drop]
  rw [List.getElem?_eq_getElem (by omega)]
  rfl
theorem lives_getD (asked : Int) (os : List St) (i : Nat) (h : i ≤ os.length) : (lives asked os).getD i 0 = liveOf asked (os.drop i) := by
  rw [List.getD_eq_getElem?_getD, lives_at asked os i h]; rfl

theorem reads_bd (s : St) : 0 ≤ s.reads ∧ s.reads ≤ 15 := by
  unfold St.reads
  cases hok : s.ok
  · simp
  · rw [if_pos rfl]
    obtain ⟨k, a, b, c, u, v, x⟩ := s
    have hr := ok_rng hok
    have h1 := bitN_bd a
    have h2 := bitN_bd b
    dsimp only
    split
    · omega
    · split
      · rename_i h
        have hab : 0 ≤ a ∧ a ≤ 3 ∧ 0 ≤ b ∧ b ≤ 3 ∧ a ≠ b := by omega
        obtain ⟨ha0, ha1, hb0, hb1, hne⟩ := hab
        obtain rfl | rfl | rfl | rfl := bit_cases ha0 ha1
        all_goals
          obtain rfl | rfl | rfl | rfl := bit_cases hb0 hb1
          all_goals first | (exact absurd rfl hne) | decide
      · split
        · omega
        · omega
theorem ahead_bd {s : St} {L : Int} (h : 0 ≤ L ∧ L ≤ 15) : 0 ≤ s.ahead L ∧ s.ahead L ≤ 15 := by
  unfold St.ahead
  split
  · exact bor_bd (bdf_bd h.2).2 (reads_bd s).2
  · exact h
theorem lives_bd {asked : Int} (ha : 0 ≤ asked ∧ asked ≤ 15) : ∀ (os : List St), ∀ x ∈ lives asked os, 0 ≤ x ∧ x ≤ 15
  | [], x, hx => by
    rw [lives, List.mem_singleton] at hx
    subst hx
    exact ha
  | s :: r, x, hx => by
    rw [lives] at hx
    have hD : ∀ i, 0 ≤ (lives asked r).getD i 0 ∧ (lives asked r).getD i 0 ≤ 15 := fun i => by
      rw [List.getD_eq_getElem?_getD]
      cases hi : (lives asked r)[i]? with
      | none => simp
      | some y => exact lives_bd ha r y (List.mem_of_getElem? hi)
    have hH : 0 ≤ (lives asked r).headD 0 ∧ (lives asked r).headD 0 ≤ 15 := by
      have := hD 0
      rwa [show (lives asked r).getD 0 0 = (lives asked r).headD 0 by cases lives asked r <;> rfl] at this
    rcases List.mem_cons.1 hx with rfl | hx
    · unfold St.live
      split
      · exact bor_bd (ahead_bd hH).2 (bor_bd (reads_bd s).2 (hD _).2).2
      · exact ahead_bd hH
    · exact lives_bd ha r x hx

theorem with_agree {L a z st st' : Int} (hs : 0 ≤ st ∧ st ≤ 80) (hs' : 0 ≤ st' ∧ st' ≤ 80) (ha : 0 ≤ a ∧ a ≤ 3) (hz : 0 ≤ z ∧ z ≤ 2) (h : ∀ v : Nat, v ≤ 3 → tb L v = true → (v : Int) ≠ a → valueAt st v = valueAt st' v) : agree L (withValue st a z) (withValue st' a z) := by
  intro v hv ht
  obtain ⟨h1, h2⟩ := valueAt_with hs ha hz
  obtain ⟨h3, h4⟩ := valueAt_with hs' ha hz
  by_cases hva : (v : Int) = a
  · rw [hva, h1, h3]
  · rw [h2 v (by omega) (by omega) hva, h4 v (by omega) (by omega) hva]
    exact h v hv ht hva
theorem with_over {L a z st : Int} (hs : 0 ≤ st ∧ st ≤ 80) (ha : 0 ≤ a ∧ a ≤ 3) (hz : 0 ≤ z ∧ z ≤ 2) (h : tb L a.toNat = false) : agree L (withValue st a z) st := by
  intro v hv ht
  obtain ⟨h1, h2⟩ := valueAt_with hs ha hz
  refine h2 v (by omega) (by omega) ?_
  rintro rfl
  rw [Int.toNat_natCast, ht] at h
  cases h

theorem tb_yes {L : Int} {a : Int} (h : 0 ≤ a) (ht : tb L a.toNat = true) : ∀ {v : Nat}, (v : Int) = a → tb L v = true := by
  intro v hv
  subst hv
  simpa using ht

/-- It does not hang on variables that are over. -/
theorem val_live {h : Int → Int} {asked : Int} (hh : ∀ st st', 0 ≤ st ∧ st ≤ 80 → 0 ≤ st' ∧ st' ≤ 80 → agree asked st st' → h st = h st') : ∀ (n : Nat) (os : List St), os.length = n → (∀ s ∈ os, s.ok = true ∧ s.notLoop = true) → ∀ st st', 0 ≤ st ∧ st ≤ 80 → 0 ≤ st' ∧ st' ≤ 80 → agree (liveOf asked os) st st' → val h os 0 st = val h os 0 st' := by
  intro n
  induction n using Nat.strongRecOn with
  | ind n ih =>
    intro os hn hok st st' hs hs' hag
    cases os with
    | nil => exact hh st st' hs hs' hag
    | cons s r =>
      have hL : liveOf asked (s :: r) = s.live r.length (lives asked r) := rfl
      rw [hL] at hag
      have hr : ∀ a b, 0 ≤ a ∧ a ≤ 80 → 0 ≤ b ∧ b ≤ 80 → agree ((lives asked r).headD 0) a b → val h r 0 a = val h r 0 b :=
        fun a b ha hb hab => ih r.length (by rw [← hn]; simp) r rfl (fun x hx => hok x (List.mem_cons_of_mem s hx)) a b ha hb hab
      have hd : ∀ j, val h r j st = val h (r.drop j) 0 st := fun j => val_skip h r j st
      have hrd : ∀ j, j ≤ r.length → agree ((lives asked r).getD j 0) st st' → val h (r.drop j) 0 st = val h (r.drop j) 0 st' := fun j hj hab => by
        rw [lives_getD asked r j hj] at hab
        exact ih (r.drop j).length (by rw [List.length_drop, ← hn, List.length_cons]; omega) _ rfl (fun x hx => hok x (List.mem_cons_of_mem s (List.mem_of_mem_drop hx))) st st' hs hs' hab
      obtain ⟨hsok, hnl⟩ := hok s List.mem_cons_self
      generalize hTL : (lives asked r).headD 0 = L at hr hag
      obtain ⟨k, a, b, c, u, v, x⟩ := s
      have hrg := ok_rng hsok
      have hn7 : k ≠ 7 := by rintro rfl; simp [St.notLoop] at hnl
      have hsets : k ≤ 3 → (St.mk k a b c u v x).sets = a := fun hk => by simp [St.sets, hsok, hk]
      have hsets' : 4 ≤ k → (St.mk k a b c u v x).sets = -1 := fun hk => by
        unfold St.sets
        rw [if_neg]
        simp; omega
      unfold St.live at hag
      dsimp only at hag
      rw [hTL] at hag
      by_cases h6 : k = 6
      · subst h6
        have hrd6 : (St.mk 6 a b c u v x).reads = bitN a := by simp [St.reads, hsok]
        have hA : (St.mk 6 a b c u v x).ahead L = L := by
          unfold St.ahead
          rw [hsets' (by decide), if_neg]
          simp
        rw [if_pos rfl, hA, hrd6] at hag
        have hva : valueAt st a = valueAt st' a := by
          have := hag a.toNat (by omega) (by rw [tb_bor, tb_bor, tb_bit (by omega) (by omega) (by omega)]; simp; omega)
          rwa [show ((a.toNat : Nat) : Int) = a by omega] at this
        have e1 : ∀ y, (St.mk 6 a b c u v x).next y 0 = y := fun y => by simp [St.next]
        have e2 : ∀ y, (St.mk 6 a b c u v x).fac y = 1 := fun y => by simp [St.fac]
        have e3 : (St.mk 6 a b c u v x).jump st' = (St.mk 6 a b c u v x).jump st := by unfold St.jump; rw [hva]
        have e4 : (St.mk 6 a b c u v x).draws = false := by simp [St.draws]
        rw [val, val, e4, if_neg (by decide), if_neg (by decide), e1, e1, e2, e2, e3, Int.one_mul, Int.one_mul]
        by_cases hj : (St.mk 6 a b c u v x).jump st = 0
        · rw [hj]
          exact hr st st' hs hs' (hag.mono fun w hw ht => by rw [tb_bor, ht]; rfl)
        · have hjb : (St.mk 6 a b c u v x).jump st = b.toNat := by
            unfold St.jump at hj ⊢
            split at hj
            · rw [if_pos (by assumption)]
            · exact absurd rfl hj
          rw [hjb, hd, val_skip h r b.toNat st']
          by_cases hbl : b.toNat ≤ r.length
          · refine hrd _ hbl (hag.mono fun w hw ht => ?_)
            rw [Nat.min_eq_left hbl, tb_bor, tb_bor, ht]
            simp
          · have := hrd r.length (Nat.le_refl _) (hag.mono fun w hw ht => by
              rw [Nat.min_eq_right (by omega), tb_bor, tb_bor, ht]
              simp)
            rw [List.drop_eq_nil_of_le (by omega)]
            rw [List.drop_eq_nil_of_le (Nat.le_refl _)] at this
            exact this
      · rw [if_neg h6] at hag
        by_cases h45 : k = 4 ∨ k = 5
        · have hA : (St.mk k a b c u v x).ahead L = bor (bdf L (bitN (-1))) (St.mk k a b c u v x).reads := by
            unfold St.ahead
            rw [hsets' (by omega), if_pos (by simp; omega)]
          rw [hA] at hag
          have hLa : agree L st st' := hag.mono fun w hw ht => by
            have hz : tb (bdf L (bitN (-1))) w = true := by
              show Nat.testBit ((((L.toNat &&& (15 - (bitN (-1)).toNat) : Nat) : Int)).toNat) w = true
              rw [Int.toNat_natCast, Nat.testBit_and]
              have e15 : Nat.testBit (15 - (bitN (-1)).toNat) w = true := by
                obtain rfl | rfl | rfl | rfl : w = 0 ∨ w = 1 ∨ w = 2 ∨ w = 3 := by omega
                all_goals decide
              rw [e15]
              have : Nat.testBit L.toNat w = true := ht
              rw [this]
              rfl
            rw [tb_bor, hz]; rfl
          have e1 : ∀ y, (St.mk k a b c u v x).next y 0 = y := fun y => by
            rcases h45 with rfl | rfl <;> simp [St.next]
          have e4 : (St.mk k a b c u v x).draws = false := by rcases h45 with rfl | rfl <;> simp [St.draws]
          have e3 : ∀ y, (St.mk k a b c u v x).jump y = 0 := fun y => by
            unfold St.jump
            rw [if_neg]
            rintro ⟨e, _⟩
            exact h6 e
          have e2 : (St.mk k a b c u v x).fac st' = (St.mk k a b c u v x).fac st := by
            rcases h45 with rfl | rfl
            · have hra : valueAt st a = valueAt st' a := by
                have := hag a.toNat (by omega) (by
                  rw [tb_bor, show (St.mk 4 a b c u v x).reads = bitN a by simp [St.reads, hsok], tb_bit (by omega) (by omega) (by omega)]
                  simp; omega)
                rwa [show ((a.toNat : Nat) : Int) = a by omega] at this
              simp [St.fac, hra]
            · have hrr : (St.mk 5 a b c u v x).reads = bitN a + bitN b := by simp [St.reads, hsok]
              have hne : a ≠ b := by omega
              have hra : valueAt st a = valueAt st' a := by
                have := hag a.toNat (by omega) (by
                  rw [tb_bor, hrr, tb_add (by omega) (by omega) hne (by omega)]
                  simp; omega)
                rwa [show ((a.toNat : Nat) : Int) = a by omega] at this
              have hrb : valueAt st b = valueAt st' b := by
                have := hag b.toNat (by omega) (by
                  rw [tb_bor, hrr, tb_add (by omega) (by omega) hne (by omega)]
                  simp; omega)
                rwa [show ((b.toNat : Nat) : Int) = b by omega] at this
              simp [St.fac, hra, hrb]
          rw [val, val, e4, if_neg (by decide), if_neg (by decide), e1, e1, e2, e3, e3, hr st st' hs hs' hLa]
        · have hk3 : 0 ≤ k ∧ k ≤ 3 := by omega
          have ha : 0 ≤ a ∧ a ≤ 3 := by omega
          by_cases hin : tb L a.toNat = true
          · have hA : (St.mk k a b c u v x).ahead L = bor (bdf L (bitN a)) (St.mk k a b c u v x).reads := by
              unfold St.ahead
              rw [hsets hk3.2, if_pos (.inr (.inr ⟨ha.1, hin⟩))]
            rw [hA] at hag
            have hoth : ∀ w : Nat, w ≤ 3 → tb L w = true → (w : Int) ≠ a → valueAt st w = valueAt st' w := fun w hw ht hne => hag w hw (by
              rw [tb_bor, tb_bdf ha.1 ha.2 hw, ht]
              simp [Ne.symm hne])
            obtain rfl | rfl | rfl | rfl : k = 0 ∨ k = 1 ∨ k = 2 ∨ k = 3 := by omega
            · have hb : (if b = -1 then 0 else valueAt st b) = (if b = -1 then 0 else valueAt st' b) := by
                by_cases hb1 : b = -1
                · rw [if_pos hb1, if_pos hb1]
                · rw [if_neg hb1, if_neg hb1]
                  have := hag b.toNat (by omega) (by
                    rw [tb_bor, show (St.mk 0 a b c u v x).reads = bitN b by simp [St.reads, hsok], tb_bit (by omega) (by omega) (by omega)]
                    simp; omega)
                  rwa [show ((b.toNat : Nat) : Int) = b by omega] at this
              have e1 : ∀ y, (St.mk 0 a b c u v x).next y 0 = withValue y a ((c + if b = -1 then 0 else valueAt y b) % 3) := fun y => by simp [St.next]
              have e2 : ∀ y, (St.mk 0 a b c u v x).fac y = 1 := fun y => by simp [St.fac]
              have e3 : ∀ y, (St.mk 0 a b c u v x).jump y = 0 := fun y => by simp [St.jump]
              rw [val, val, if_neg (by simp [St.draws]), if_neg (by simp [St.draws]), e2, e2, e3, e3, e1, e1, ← hb]
              rw [hr _ _ (with_bd hs ha (by omega)) (with_bd hs' ha (by omega)) (with_agree hs hs' ha (by omega) hoth)]
            · have hne : a ≠ b := by omega
              have hrr : (St.mk 1 a b c u v x).reads = bitN a + bitN b := by simp [St.reads, hsok]
              have hra : valueAt st a = valueAt st' a := by
                have := hag a.toNat (by omega) (by
                  rw [tb_bor, hrr, tb_add (by omega) (by omega) hne (by omega)]
                  simp; omega)
                rwa [show ((a.toNat : Nat) : Int) = a by omega] at this
              have hrb : valueAt st b = valueAt st' b := by
                have := hag b.toNat (by omega) (by
                  rw [tb_bor, hrr, tb_add (by omega) (by omega) hne (by omega)]
                  simp; omega)
                rwa [show ((b.toNat : Nat) : Int) = b by omega] at this
              have e1 : ∀ y, (St.mk 1 a b c u v x).next y 0 = withValue y a ((valueAt y a + valueAt y b) % 3) := fun y => by simp [St.next]
              have e2 : ∀ y, (St.mk 1 a b c u v x).fac y = 1 := fun y => by simp [St.fac]
              have e3 : ∀ y, (St.mk 1 a b c u v x).jump y = 0 := fun y => by simp [St.jump]
              rw [val, val, if_neg (by simp [St.draws]), if_neg (by simp [St.draws]), e2, e2, e3, e3, e1, e1, ← hra, ← hrb]
              rw [hr _ _ (with_bd hs ha (by omega)) (with_bd hs' ha (by omega)) (with_agree hs hs' ha (by omega) hoth)]
            · have e1 : ∀ y d, (St.mk 2 a b c u v x).next y d = withValue y a d := fun y d => by simp [St.next]
              have key : ∀ d : Int, 0 ≤ d ∧ d ≤ 2 → val h r 0 (withValue st a d) = val h r 0 (withValue st' a d) := fun d hdd => hr _ _ (with_bd hs ha hdd) (with_bd hs' ha hdd) (with_agree hs hs' ha hdd hoth)
              rw [val, val, if_pos (by simp [St.draws]), if_pos (by simp [St.draws])]
              rw [fac_2 hs ha (by decide), fac_2 hs ha (by decide), fac_2 hs ha (by decide), fac_2 hs' ha (by decide), fac_2 hs' ha (by decide), fac_2 hs' ha (by decide)]
              simp only [e1]
              rw [key 0 (by decide), key 1 (by decide), key 2 (by decide)]
            · have hne : a ≠ b := by omega
              have hb : 0 ≤ b ∧ b ≤ 3 := by omega
              have hrb : valueAt st b = valueAt st' b := by
                have := hag b.toNat (by omega) (by
                  rw [tb_bor, show (St.mk 3 a b c u v x).reads = bitN b by simp [St.reads, hsok], tb_bit (by omega) (by omega) (by omega)]
                  simp; omega)
                rwa [show ((b.toNat : Nat) : Int) = b by omega] at this
              have e1 : ∀ y d, (St.mk 3 a b c u v x).next y d = withValue y a d := fun y d => by simp [St.next]
              have key : ∀ d : Int, 0 ≤ d ∧ d ≤ 2 → val h r 0 (withValue st a d) = val h r 0 (withValue st' a d) := fun d hdd => hr _ _ (with_bd hs ha hdd) (with_bd hs' ha hdd) (with_agree hs hs' ha hdd hoth)
              rw [val, val, if_pos (by simp [St.draws]), if_pos (by simp [St.draws])]
              rw [fac_3 hs ha hb hne (by decide), fac_3 hs ha hb hne (by decide), fac_3 hs ha hb hne (by decide), fac_3 hs' ha hb hne (by decide), fac_3 hs' ha hb hne (by decide), fac_3 hs' ha hb hne (by decide)]
              simp only [e1]
              rw [key 0 (by decide), key 1 (by decide), key 2 (by decide), hrb]
          · have hin' : tb L a.toNat = false := by simpa using hin
            have hA : (St.mk k a b c u v x).ahead L = L := by
              unfold St.ahead
              rw [hsets hk3.2, if_neg]
              rintro (e | e | ⟨_, e⟩)
              · exact h45 (.inl e)
              · exact h45 (.inr e)
              · exact hin e
            rw [hA] at hag
            have hX := hr st st' hs hs' hag
            have hm3 : ∀ t : Int, 0 ≤ t % 3 ∧ t % 3 ≤ 2 := fun t => by omega
            have key : ∀ (y z : Int), 0 ≤ y ∧ y ≤ 80 → 0 ≤ z ∧ z ≤ 2 → val h r 0 (withValue y a z) = val h r 0 y := fun y z hy hz => hr _ _ (with_bd hy ha hz) hy (with_over hy ha hz hin')
            obtain rfl | rfl | rfl | rfl : k = 0 ∨ k = 1 ∨ k = 2 ∨ k = 3 := by omega
            · have e1 : ∀ y, (St.mk 0 a b c u v x).next y 0 = withValue y a ((c + if b = -1 then 0 else valueAt y b) % 3) := fun y => by simp [St.next]
              have e2 : ∀ y, (St.mk 0 a b c u v x).fac y = 1 := fun y => by simp [St.fac]
              have e3 : ∀ y, (St.mk 0 a b c u v x).jump y = 0 := fun y => by simp [St.jump]
              rw [val, val, if_neg (by simp [St.draws]), if_neg (by simp [St.draws]), e2, e2, e3, e3, e1, e1, key st _ hs (hm3 _), key st' _ hs' (hm3 _), hX]
            · have e1 : ∀ y, (St.mk 1 a b c u v x).next y 0 = withValue y a ((valueAt y a + valueAt y b) % 3) := fun y => by simp [St.next]
              have e2 : ∀ y, (St.mk 1 a b c u v x).fac y = 1 := fun y => by simp [St.fac]
              have e3 : ∀ y, (St.mk 1 a b c u v x).jump y = 0 := fun y => by simp [St.jump]
              rw [val, val, if_neg (by simp [St.draws]), if_neg (by simp [St.draws]), e2, e2, e3, e3, e1, e1, key st _ hs (hm3 _), key st' _ hs' (hm3 _), hX]
            · have e1 : ∀ y d, (St.mk 2 a b c u v x).next y d = withValue y a d := fun y d => by simp [St.next]
              rw [val, val, if_pos (by simp [St.draws]), if_pos (by simp [St.draws])]
              rw [fac_2 hs ha (by decide), fac_2 hs ha (by decide), fac_2 hs ha (by decide), fac_2 hs' ha (by decide), fac_2 hs' ha (by decide), fac_2 hs' ha (by decide)]
              simp only [e1]
              rw [key st 0 hs (by decide), key st 1 hs (by decide), key st 2 hs (by decide), key st' 0 hs' (by decide), key st' 1 hs' (by decide), key st' 2 hs' (by decide), hX]
            · have hne : a ≠ b := by omega
              have hb : 0 ≤ b ∧ b ≤ 3 := by omega
              have e1 : ∀ y d, (St.mk 3 a b c u v x).next y d = withValue y a d := fun y d => by simp [St.next]
              have hsum : ∀ (y X : Int), 0 ≤ y ∧ y ≤ 80 → (St.mk 3 a b c u v x).wgt ((0 + valueAt y b) % 3) * X + (St.mk 3 a b c u v x).wgt ((1 + valueAt y b) % 3) * X + (St.mk 3 a b c u v x).wgt ((2 + valueAt y b) % 3) * X = (u + v + x) * X := fun y X hy => by
                have hv := value_bd hy hb
                have h3 : valueAt y b = 0 ∨ valueAt y b = 1 ∨ valueAt y b = 2 := by omega
                have hx3 : (u + v + x) * X = u * X + v * X + x * X := by rw [Int.add_mul, Int.add_mul]
                rw [hx3]
                rcases h3 with e | e | e
                all_goals
                  rw [e]
                  simp [St.wgt]
                  try omega
              rw [val, val, if_pos (by simp [St.draws]), if_pos (by simp [St.draws])]
              rw [fac_3 hs ha hb hne (by decide), fac_3 hs ha hb hne (by decide), fac_3 hs ha hb hne (by decide), fac_3 hs' ha hb hne (by decide), fac_3 hs' ha hb hne (by decide), fac_3 hs' ha hb hne (by decide)]
              simp only [e1]
              rw [key st 0 hs (by decide), key st 1 hs (by decide), key st 2 hs (by decide), key st' 0 hs' (by decide), key st' 1 hs' (by decide), key st' 2 hs' (by decide), hX, hsum st _ hs, hsum st' _ hs']

end Go.Proofs.Ytbndonfpdioibaa
