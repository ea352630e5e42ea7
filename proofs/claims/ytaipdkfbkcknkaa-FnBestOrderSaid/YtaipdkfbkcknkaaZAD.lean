/- Parts of the proof: K1. -/
import Derived.Test.YtaipdkfbkcknkaaZAC
namespace Go.Proofs.Ytaipdkfbkcknkaa
set_option maxRecDepth 100000
set_option linter.unusedVariables false
open Go.RowKit
/-- The variables that have a set with one, and itself. -/
def nbS (ss : List Int) (u : Nat) : Int := ss.foldl (fun J s => if tb s u = true then bor J s else J) (bitN (u : Int))
def grS (ss : List Int) : Gr := grOf fun u => (nbS ss u).toNat
def Sts (ss : List Int) : Prop := ∀ s ∈ ss, 0 ≤ s ∧ s ≤ 15
theorem fold_bdS (p : Int → Bool) : ∀ {ss : List Int}, Sts ss → ∀ {J : Int}, 0 ≤ J ∧ J ≤ 15 → 0 ≤ ss.foldl (fun J s => if p s = true then bor J s else J) J ∧ ss.foldl (fun J s => if p s = true then bor J s else J) J ≤ 15
  | [], _, _, hJ => hJ
  | s :: r, h, J, hJ => by
    rw [List.foldl_cons]
    refine fold_bdS p (fun x hx => h x (List.mem_cons_of_mem _ hx)) ?_
    split
    · exact bor_bd hJ.2 (h s List.mem_cons_self).2
    · exact hJ
theorem fold_tbS (p : Int → Bool) (w : Nat) : ∀ (ss : List Int) (J : Int), tb (ss.foldl (fun J s => if p s = true then bor J s else J) J) w = (tb J w || ss.any fun s => p s && tb s w)
  | [], J => by simp
  | s :: r, J => by
    rw [List.foldl_cons, fold_tbS p w r, List.any_cons]
    cases hp : p s
    · rw [if_neg (by decide), Bool.false_and, Bool.false_or]
    · rw [if_pos rfl, tb_bor, Bool.true_and, Bool.or_assoc]
theorem nbS_tb (ss : List Int) {u w : Nat} (hu : u ≤ 3) (hw : w ≤ 3) : tb (nbS ss u) w = (decide (u = w) || ss.any fun s => tb s u && tb s w) := by
  unfold nbS
  rw [fold_tbS (fun s => tb s u) w ss, tb_bit (by omega) (by omega) hw]
  congr 1
  rw [decide_eq_decide]
  omega
theorem nbS_bd {ss : List Int} (h : Sts ss) (u : Nat) : 0 ≤ nbS ss u ∧ nbS ss u ≤ 15 := fold_bdS (fun s => tb s u) h (bitN_le _)
theorem nb_all0 : ∀ n : Fin 16, n.val.testBit 0 = true → 1 + 2 * (n.val.testBit 1).toNat + 4 * (n.val.testBit 2).toNat + 8 * (n.val.testBit 3).toNat = n.val := by decide +kernel
theorem nb_all1 : ∀ n : Fin 16, n.val.testBit 1 = true → (n.val.testBit 0).toNat + 2 + 4 * (n.val.testBit 2).toNat + 8 * (n.val.testBit 3).toNat = n.val := by decide +kernel
theorem nb_all2 : ∀ n : Fin 16, n.val.testBit 2 = true → (n.val.testBit 0).toNat + 2 * (n.val.testBit 1).toNat + 4 + 8 * (n.val.testBit 3).toNat = n.val := by decide +kernel
theorem nb_all3 : ∀ n : Fin 16, n.val.testBit 3 = true → (n.val.testBit 0).toNat + 2 * (n.val.testBit 1).toNat + 4 * (n.val.testBit 2).toNat + 8 = n.val := by decide +kernel
/-- What is symmetric and has itself is a graph's. -/
theorem grOf_nb {N : Nat → Nat} (h16 : ∀ u, u ≤ 3 → N u < 16) (hr : ∀ u, u ≤ 3 → (N u).testBit u = true) (hs : ∀ u w, u ≤ 3 → w ≤ 3 → (N u).testBit w = (N w).testBit u) {u : Nat} (hu : u ≤ 3) : (grOf N).nb u = N u := by
  obtain rfl | rfl | rfl | rfl : u = 0 ∨ u = 1 ∨ u = 2 ∨ u = 3 := by omega
  · exact nb_all0 ⟨N 0, h16 0 hu⟩ (hr 0 hu)
  · have h := nb_all1 ⟨N 1, h16 1 hu⟩ (hr 1 hu)
    simp only at h
    rw [hs 1 0 hu (by decide)] at h
    exact h
  · have h := nb_all2 ⟨N 2, h16 2 hu⟩ (hr 2 hu)
    simp only at h
    rw [hs 2 0 hu (by decide), hs 2 1 hu (by decide)] at h
    exact h
  · have h := nb_all3 ⟨N 3, h16 3 hu⟩ (hr 3 hu)
    simp only at h
    rw [hs 3 0 hu (by decide), hs 3 1 hu (by decide), hs 3 2 hu (by decide)] at h
    exact h
theorem grS_nb {ss : List Int} (h : Sts ss) {u : Nat} (hu : u ≤ 3) : (grS ss).nb u = (nbS ss u).toNat := by
  have ht : ∀ u w, u ≤ 3 → w ≤ 3 → (nbS ss u).toNat.testBit w = (decide (u = w) || ss.any fun s => tb s u && tb s w) := fun u w hu hw => nbS_tb ss hu hw
  refine grOf_nb (N := fun u => (nbS ss u).toNat) (fun u _ => by have := nbS_bd h u; show (nbS ss u).toNat < 16; omega) (fun u hu => ?_) (fun u w hu hw => ?_) hu
  · show (nbS ss u).toNat.testBit u = true
    rw [ht u u hu hu, decide_eq_true rfl, Bool.true_or]
  · show (nbS ss u).toNat.testBit w = (nbS ss w).toNat.testBit u
    rw [ht u w hu hw, ht w u hw hu]
    congr 1
    · rw [decide_eq_decide]; exact ⟨Eq.symm, Eq.symm⟩
    · congr 1; funext s; exact Bool.and_comm _ _
theorem nat_ext {a b : Nat} (ha : a < 16) (hb : b < 16) (h : ∀ w, w ≤ 3 → a.testBit w = b.testBit w) : a = b := by
  have : ∀ x y : Fin 16, (∀ w : Fin 4, x.val.testBit w.val = y.val.testBit w.val) → x = y := by decide +kernel
  have := this ⟨a, ha⟩ ⟨b, hb⟩ fun w => h w.val (by omega)
  exact congrArg Fin.val this
theorem grOf_congr {N N' : Nat → Nat} (h : ∀ u, u ≤ 3 → N u = N' u) : grOf N = grOf N' := by
  unfold grOf
  rw [h 0 (by decide), h 1 (by decide), h 2 (by decide)]
/-- Sets without a variable. -/
def elS1 (ss : List Int) (v : Nat) : List Int := (ss.filter fun s => !tb s v) ++ [bdf (nbS ss v) (bitN (v : Int))]
theorem elS1_sts {ss : List Int} (h : Sts ss) (v : Nat) : Sts (elS1 ss v) := fun s hs => by
  rcases List.mem_append.1 hs with hs | hs
  · exact h s (List.mem_filter.1 hs).1
  · rw [List.mem_singleton.1 hs]
    exact bdf_bd (nbS_bd h v).2
theorem any_filter_ {α : Type} (p q : α → Bool) : ∀ l : List α, (l.filter p).any q = l.any fun x => p x && q x
  | [] => rfl
  | x :: r => by
    rw [List.any_cons]
    cases h : p x
    · rw [List.filter_cons_of_neg (by simp [h]), any_filter_ p q r]; simp
    · rw [List.filter_cons_of_pos h, List.any_cons, any_filter_ p q r]; simp
theorem el_grS {ss : List Int} (h : Sts ss) {v : Nat} (hv : v ≤ 3) : grS (elS1 ss v) = (grS ss).el v := by
  unfold Gr.el
  unfold grS
  refine grOf_congr fun u hu => ?_
  have hb := nbS_bd (elS1_sts h v) u
  have hnv := grS_nb h hv
  have hnu := grS_nb h hu
  unfold grS at hnv hnu
  have hbv := nbS_bd h v
  have hbu := nbS_bd h u
  rw [hnv, hnu]
  have hor : (nbS ss u).toNat ||| (nbS ss v).toNat < 2 ^ 4 := Nat.or_lt_two_pow (by omega) (by omega)
  have hp : 2 ^ v < 16 := by
    obtain rfl | rfl | rfl | rfl : v = 0 ∨ v = 1 ∨ v = 2 ∨ v = 3 := by omega
    all_goals decide
  have hmask : ∀ v w : Fin 4, (15 - 2 ^ v.val : Nat).testBit w.val = !decide (v.val = w.val) := by decide +kernel
  refine nat_ext (by omega) ?_ fun w hw => ?_
  · split
    · exact hp
    · split
      · exact Nat.lt_of_le_of_lt Nat.and_le_left (by omega)
      · omega
  · have e1 : (nbS (elS1 ss v) u).toNat.testBit w = (decide (u = w) || ((ss.any fun s => !tb s v && (tb s u && tb s w)) || (tb (bdf (nbS ss v) (bitN (v : Int))) u && tb (bdf (nbS ss v) (bitN (v : Int))) w))) := by
      have := nbS_tb (elS1 ss v) hu hw
      unfold tb at this
      rw [this]
      congr 1
      unfold elS1
      rw [List.any_append, any_filter_, List.any_cons, List.any_nil, Bool.or_false]
      rfl
    rw [e1, tb_bdf (by omega) (by omega) hu, tb_bdf (by omega) (by omega) hw, nbS_tb ss hv hu, nbS_tb ss hv hw]
    have tu : ∀ x, x ≤ 3 → (nbS ss u).toNat.testBit x = (decide (u = x) || ss.any fun s => tb s u && tb s x) := fun x hx => nbS_tb ss hu hx
    have tv : ∀ x, x ≤ 3 → (nbS ss v).toNat.testBit x = (decide (v = x) || ss.any fun s => tb s v && tb s x) := fun x hx => nbS_tb ss hv hx
    by_cases huv : u = v
    · subst huv
      rw [if_pos rfl, decide_eq_true (show (u : Int) = (u : Int) from rfl)]
      have hany : (ss.any fun s => !tb s u && (tb s u && tb s w)) = false := by
        rw [List.any_eq_false]
        intro s _
        cases tb s u <;> simp
      rw [hany]
      have : ∀ u w : Fin 4, (2 ^ u.val : Nat).testBit w.val = decide (u.val = w.val) := by decide +kernel
      have h3 := this ⟨u, by omega⟩ ⟨w, by omega⟩
      simp only at h3
      rw [h3]
      simp
    · have hdu : decide (v = u) = false := decide_eq_false (Ne.symm huv)
      have hdi : decide ((v : Int) = (u : Int)) = false := decide_eq_false (by omega)
      have hwv : decide ((v : Int) = (w : Int)) = decide (v = w) := by rw [decide_eq_decide]; omega
      rw [if_neg huv, hdu, hdi, hwv, tv u hu, hdu, Bool.false_or]
      have hm := hmask ⟨v, by omega⟩ ⟨w, by omega⟩
      simp only at hm
      cases hA : ss.any fun s => tb s v && tb s u
      · rw [if_neg (by decide), tu w hw]
        simp only [Bool.not_false, Bool.and_true, Bool.false_and, Bool.or_false]
        congr 1
        rw [Bool.eq_iff_iff, List.any_eq_true, List.any_eq_true]
        constructor
        · rintro ⟨s, hs, hq⟩
          exact ⟨s, hs, by simp at hq ⊢; exact hq.2⟩
        · rintro ⟨s, hs, hq⟩
          refine ⟨s, hs, ?_⟩
          have := List.any_eq_false.1 hA s hs
          simp at hq this ⊢
          refine ⟨?_, hq⟩
          cases hsv : tb s v
          · rfl
          · have := this hsv
            rw [hq.1] at this
            cases this
      · rw [if_pos rfl, Nat.testBit_and, Nat.testBit_or, hm, tu w hw, tv w hw]
        by_cases hvw : v = w
        · subst hvw
          rw [decide_eq_true (rfl : v = v)]
          have : (ss.any fun s => !tb s v && (tb s u && tb s v)) = false := by
            rw [List.any_eq_false]
            intro s _
            cases tb s v <;> simp
          rw [this, decide_eq_false huv]
          simp
        · rw [decide_eq_false hvw]
          simp only [Bool.not_false, Bool.and_true, Bool.true_and, Bool.false_or]
          rw [Bool.or_assoc]
          congr 1
          rw [Bool.eq_iff_iff, Bool.or_eq_true, Bool.or_eq_true, List.any_eq_true, List.any_eq_true, List.any_eq_true]
          constructor
          · rintro (⟨s, hs, hq⟩ | h2)
            · exact .inl ⟨s, hs, by simp at hq ⊢; exact hq.2⟩
            · exact .inr h2
          · rintro (⟨s, hs, hq⟩ | h2)
            · cases hsv : tb s v
              · exact .inl ⟨s, hs, by simp at hq ⊢; exact ⟨hsv, hq⟩⟩
              · exact .inr ⟨s, hs, by simp at hq ⊢; exact ⟨hsv, hq.2⟩⟩
            · exact .inr h2
/-- One round of the program's: what meets what is joined on a way is joined too. -/
def ban (a b : Int) : Int := ((a.toNat &&& b.toNat : Nat) : Int)
def rdS (T : Int) (ss : List Int) (J : Int) : Int := ss.foldl (fun J s => if ban (ban s J) T = 0 then J else bor J s) J
def clS (ss : List Int) (T : Int) (v : Nat) : Nat → Int
  | 0 => bitN (v : Int)
  | k + 1 => rdS T ss (clS ss T v k)
theorem rdS_bd {T : Int} : ∀ {ss : List Int}, Sts ss → ∀ {J : Int}, 0 ≤ J ∧ J ≤ 15 → 0 ≤ rdS T ss J ∧ rdS T ss J ≤ 15
  | [], _, _, hJ => hJ
  | s :: r, h, J, hJ => by
    unfold rdS
    rw [List.foldl_cons]
    refine rdS_bd (fun x hx => h x (List.mem_cons_of_mem _ hx)) ?_
    split
    · exact hJ
    · exact bor_bd hJ.2 (h s List.mem_cons_self).2
theorem clS_bd {ss : List Int} {T : Int} (h : Sts ss) (v : Nat) : ∀ k, 0 ≤ clS ss T v k ∧ clS ss T v k ≤ 15
  | 0 => bitN_le _
  | k + 1 => rdS_bd h (clS_bd h v k)
theorem rdS_sub {T : Int} {w : Nat} : ∀ {ss : List Int} {J : Int}, tb J w = true → tb (rdS T ss J) w = true
  | [], _, hJ => hJ
  | s :: r, J, hJ => by
    unfold rdS
    rw [List.foldl_cons]
    refine rdS_sub (ss := r) ?_
    split
    · exact hJ
    · rw [tb_bor, hJ, Bool.true_or]
theorem ban_pos {a b c : Int} {u : Nat} (ha : tb a u = true) (hb : tb b u = true) (hc : tb c u = true) : ban (ban a b) c ≠ 0 := by
  unfold ban
  rw [Int.toNat_natCast]
  intro e
  have h0 : (a.toNat &&& b.toNat) &&& c.toNat = 0 := by omega
  have : ((a.toNat &&& b.toNat) &&& c.toNat).testBit u = true := by
    unfold tb at ha hb hc
    rw [Nat.testBit_and, Nat.testBit_and, ha, hb, hc]
    rfl
  rw [h0, Nat.zero_testBit] at this
  cases this
theorem ban_neg {a b c : Int} (ha : 0 ≤ a ∧ a ≤ 15) (h : ban (ban a b) c ≠ 0) : ∃ u, u ≤ 3 ∧ tb a u = true ∧ tb b u = true ∧ tb c u = true := by
  unfold ban at h
  rw [Int.toNat_natCast] at h
  have h0 : (a.toNat &&& b.toNat) &&& c.toNat ≠ 0 := by omega
  have hlt : (a.toNat &&& b.toNat) &&& c.toNat < 16 := Nat.lt_of_le_of_lt (Nat.le_trans Nat.and_le_left Nat.and_le_left) (by omega)
  have : ∀ n : Fin 16, n.val ≠ 0 → ∃ u : Fin 4, n.val.testBit u.val = true := by decide +kernel
  obtain ⟨u, hu⟩ := this ⟨_, hlt⟩ h0
  rw [Nat.testBit_and, Nat.testBit_and, Bool.and_eq_true, Bool.and_eq_true] at hu
  exact ⟨u.val, by omega, hu.1.1, hu.1.2, hu.2⟩
theorem rdS_step {T : Int} {u w : Nat} : ∀ {ss : List Int} {J s : Int}, s ∈ ss → tb s u = true → tb J u = true → tb T u = true → tb s w = true → tb (rdS T ss J) w = true
  | [], _, _, hs, _, _, _, _ => by cases hs
  | t :: r, J, s, hs, h1, h2, h3, h4 => by
    unfold rdS
    rw [List.foldl_cons]
    rcases List.mem_cons.1 hs with rfl | hs
    · rw [if_neg (ban_pos h1 h2 h3)]
      exact rdS_sub (ss := r) (by rw [tb_bor, h4, Bool.or_true])
    · refine rdS_step hs h1 ?_ h3 h4
      split
      · exact h2
      · rw [tb_bor, h2, Bool.true_or]
theorem rdS_in {T C : Int} : ∀ {ss : List Int}, Sts ss → (∀ s ∈ ss, ∀ u, u ≤ 3 → tb s u = true → tb C u = true → tb T u = true → ∀ w, w ≤ 3 → tb s w = true → tb C w = true) → ∀ {J : Int}, (∀ w, w ≤ 3 → tb J w = true → tb C w = true) → ∀ w, w ≤ 3 → tb (rdS T ss J) w = true → tb C w = true
  | [], _, _, _, hJ => hJ
  | s :: r, h, hC, J, hJ => by
    unfold rdS
    rw [List.foldl_cons]
    refine rdS_in (fun x hx => h x (List.mem_cons_of_mem _ hx)) (fun x hx => hC x (List.mem_cons_of_mem _ hx)) ?_
    split
    · exact hJ
    · rename_i hb
      obtain ⟨u, hu, h1, h2, h3⟩ := ban_neg (h s List.mem_cons_self) hb
      intro w hw hq
      rw [tb_bor, Bool.or_eq_true] at hq
      rcases hq with hq | hq
      · exact hJ w hw hq
      · exact hC s List.mem_cons_self u hu h1 (hJ u hu h2) h3 w hw hq
theorem stepJ_tb (g : Gr) (T J w : Nat) : (g.stepJ T J).testBit w = (J.testBit w || (List.range 4).any fun u => (J.testBit u && T.testBit u) && (g.nb u).testBit w) := by
  unfold Gr.stepJ
  have : ∀ (l : List Nat) (R : Nat), (l.foldl (fun R u => if (J.testBit u && T.testBit u) = true then R ||| g.nb u else R) R).testBit w = (R.testBit w || l.any fun u => (J.testBit u && T.testBit u) && (g.nb u).testBit w) := by
    intro l
    induction l with
    | nil => intro R; simp
    | cons x r ih =>
      intro R
      rw [List.foldl_cons, ih, List.any_cons]
      cases hp : J.testBit x && T.testBit x
      · rw [if_neg (by decide)]; simp
      · rw [if_pos rfl, Nat.testBit_or, Bool.true_and, Bool.or_assoc]
  exact this _ _
/-- The program's three rounds come to what is joined. -/
theorem clS_eq {ss : List Int} (h : Sts ss) {T : Int} (hT : 0 ≤ T ∧ T ≤ 15) {v : Nat} (hv : v ≤ 3) : (clS ss T v 3).toNat = (grS ss).cl T.toNat v := by
  have hb3 := clS_bd (T := T) h v 3
  have hcb := cl_bd (grS ss) ⟨T.toNat, by omega⟩ ⟨v, by omega⟩
  have hcc := cl_closed (grS ss) ⟨T.toNat, by omega⟩ ⟨v, by omega⟩
  simp only at hcb hcc
  have h2 : (bitN (v : Int)).toNat = 2 ^ v := by
    obtain rfl | rfl | rfl | rfl : v = 0 ∨ v = 1 ∨ v = 2 ∨ v = 3 := by omega
    all_goals decide
  have hup : ∀ (J : Int) (K : Nat), (∀ w, w ≤ 3 → K.testBit w = true → tb J w = true) → ∀ w, w ≤ 3 → ((grS ss).stepJ T.toNat K).testBit w = true → tb (rdS T ss J) w = true := by
    intro J K hJK w hw h1
    rw [stepJ_tb, Bool.or_eq_true, List.any_eq_true] at h1
    rcases h1 with h1 | ⟨u, hu, h1⟩
    · exact rdS_sub (hJK w hw h1)
    · have hu4 : u ≤ 3 := by have := List.mem_range.1 hu; omega
      rw [Bool.and_eq_true, Bool.and_eq_true, grS_nb h hu4] at h1
      have hnb : tb (nbS ss u) w = true := h1.2
      rw [nbS_tb ss hu4 hw, Bool.or_eq_true, List.any_eq_true] at hnb
      rcases hnb with hnb | ⟨s, hs, hq⟩
      · have : u = w := of_decide_eq_true hnb
        subst this
        exact rdS_sub (hJK u hu4 h1.1.1)
      · rw [Bool.and_eq_true] at hq
        exact rdS_step hs hq.1 (hJK u hu4 h1.1.1) h1.1.2 hq.2
  have h0 : ∀ w, w ≤ 3 → (2 ^ v).testBit w = true → tb (bitN (v : Int)) w = true := fun w _ hq => by
    unfold tb
    rw [h2]
    exact hq
  refine nat_ext (by omega) hcb fun w hw => ?_
  rw [Bool.eq_iff_iff]
  constructor
  · have hin : ∀ {J : Int}, (∀ w, w ≤ 3 → tb J w = true → tb (((grS ss).cl T.toNat v : Nat) : Int) w = true) → ∀ w, w ≤ 3 → tb (rdS T ss J) w = true → tb (((grS ss).cl T.toNat v : Nat) : Int) w = true := fun {J} hJ => by
      refine rdS_in h (fun s hs u hu h1 h2 h3 w hw h4 => ?_) hJ
      unfold tb at h2 ⊢
      rw [Int.toNat_natCast] at h2 ⊢
      rw [← hcc, stepJ_tb, Bool.or_eq_true, List.any_eq_true]
      refine .inr ⟨u, List.mem_range.2 (by omega), ?_⟩
      rw [Bool.and_eq_true, Bool.and_eq_true, grS_nb h hu]
      refine ⟨⟨h2, h3⟩, ?_⟩
      have := nbS_tb ss hu hw
      unfold tb at this
      rw [this, Bool.or_eq_true, List.any_eq_true]
      refine .inr ⟨s, hs, ?_⟩
      unfold tb at h1 h4
      rw [h1, h4]
      rfl
    have hst : ∀ w, w ≤ 3 → tb (bitN (v : Int)) w = true → tb (((grS ss).cl T.toNat v : Nat) : Int) w = true := fun w hw hq => by
      unfold tb at hq ⊢
      rw [h2] at hq
      rw [Int.toNat_natCast]
      unfold Gr.cl
      have hsub : ∀ J : Nat, J.testBit w = true → ((grS ss).stepJ T.toNat J).testBit w = true := fun J hJ => by rw [stepJ_tb, hJ, Bool.true_or]
      exact hsub _ (hsub _ (hsub _ hq))
    intro hq
    have := hin (hin (hin hst)) w hw hq
    unfold tb at this
    rwa [Int.toNat_natCast] at this
  · intro hq
    exact hup _ _ (hup _ _ (hup _ _ h0)) w hw hq
theorem bdf_and {a b : Int} : (bdf a b).toNat = a.toNat &&& (15 - b.toNat) := by unfold bdf; exact Int.toNat_natCast _
/-- How many variables the product on the way has, by sets. -/
def wbS (ss : List Int) (gone : Int) (v : Nat) : Int := ((grS ss).wP gone.toNat v : Nat)
theorem wbS_eq {ss : List Int} (h : Sts ss) {gone : Int} (hg : 0 ≤ gone ∧ gone ≤ 15) {v : Nat} (hv : v ≤ 3) : wbS ss gone v = (cntN (bdf (clS ss (bor gone (bitN (v : Int))) v 3) gone).toNat : Nat) := by
  have hT := bor_bd hg.2 (bitN_le (v : Int)).2
  unfold wbS Gr.wP
  rw [bdf_and, clS_eq h hT hv]
  have h2 : (bitN (v : Int)).toNat = 2 ^ v := by
    obtain rfl | rfl | rfl | rfl : v = 0 ∨ v = 1 ∨ v = 2 ∨ v = 3 := by omega
    all_goals decide
  have : (bor gone (bitN (v : Int))).toNat = gone.toNat ||| 2 ^ v := by unfold bor; rw [Int.toNat_natCast, h2]
  rw [this]
end Go.Proofs.Ytaipdkfbkcknkaa
