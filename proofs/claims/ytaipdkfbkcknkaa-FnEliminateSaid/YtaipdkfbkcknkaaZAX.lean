/- Parts of the proof: KK, KQ, He, KR, KC. -/
import Derived.Test.YtaipdkfbkcknkaaZAW
import Derived.Test.YtaipdkfbkcknkaaZAN
import Derived.Test.YtaipdkfbkcknkaaZAI
import Derived.Test.YtaipdkfbkcknkaaZAR
import Derived.Test.YtaipdkfbkcknkaaZAC
import Derived.Test.YtaipdkfbkcknkaaZAD
import Derived.Test.YtaipdkfbkcknkaaZAB
namespace Go.Proofs.Ytaipdkfbkcknkaa
set_option maxRecDepth 100000
set_option linter.unusedVariables false
open Go.RowKit
/-- What is left when the variables of an order are gone. -/
def lefO (os : List Int) : Int := os.foldl (fun L v => bdf L (bitN v)) 15
theorem fold_bdf : ∀ (os : List Int) (L : Int), 0 ≤ L ∧ L ≤ 15 → (0 ≤ os.foldl (fun L v => bdf L (bitN v)) L ∧ os.foldl (fun L v => bdf L (bitN v)) L ≤ 15) ∧
    ((∀ v ∈ os, 0 ≤ v ∧ v ≤ 3) → ∀ u : Nat, u ≤ 3 → tb (os.foldl (fun L v => bdf L (bitN v)) L) u = (tb L u && !decide ((u : Int) ∈ os)))
  | [], L, h => ⟨h, fun _ u _ => by simp⟩
  | v :: r, L, h => by
    obtain ⟨h1, h2⟩ := fold_bdf r (bdf L (bitN v)) (bdf_bd h.2)
    refine ⟨h1, fun ho u hu => ?_⟩
    have hv := ho v List.mem_cons_self
    rw [List.foldl_cons, h2 (fun x hx => ho x (List.mem_cons_of_mem _ hx)) u hu, tb_bdf hv.1 hv.2 hu, Bool.and_assoc, ← Bool.not_or]
    congr 2
    by_cases e : v = (u : Int)
    · simp [e]
    · have e' : ¬ (u : Int) = v := fun q => e q.symm
      simp [e, e']
theorem lefO_bd (os : List Int) : 0 ≤ lefO os ∧ lefO os ≤ 15 := (fold_bdf os 15 (by decide)).1
theorem lefO_tb {os : List Int} (ho : ∀ v ∈ os, 0 ≤ v ∧ v ≤ 3) (u : Fin 4) : tb (lefO os) u.val = !decide ((u.val : Int) ∈ os) := by
  have h := (fold_bdf os 15 (by decide)).2 ho u.val (by omega)
  have h15 : ∀ u : Fin 4, tb 15 u.val = true := by decide +kernel
  rw [h15 u, Bool.true_and] at h
  exact h
theorem lefO_take {os : List Int} {k : Nat} {v : Int} (h : os[k]? = some v) : lefO (os.take (k + 1)) = bdf (lefO (os.take k)) (bitN v) := by
  obtain ⟨hl, he⟩ := List.getElem?_eq_some_iff.1 h
  unfold lefO
  rw [List.take_succ_eq_append_getElem hl, List.foldl_append, he]
  rfl
theorem elim_tb {Fs : List Fac} (h : Fine Fs) (v : Fin 4) {u : Nat} (hu : u ≤ 3) (hp : u = v.val ∨ ∀ F ∈ Fs, tb (setOf F.vs) u = false) : ∀ F ∈ elim1 Fs (v.val : Int), tb (setOf F.vs) u = false := fun F hF => by
  rcases List.mem_append.1 hF with hF | hF
  · obtain ⟨hF1, hF2⟩ := List.mem_filter.1 hF
    rcases hp with rfl | hp
    · rw [← has_tb (h F hF1) v]; simpa using hF2
    · exact hp F hF1
  · rw [List.mem_singleton.1 hF]
    obtain ⟨h1, _, h3⟩ := prodV_all h v
    unfold elimF
    rw [fOut_set h1 (by omega), h3, tb_bdf (by omega) (by omega) hu]
    by_cases e : v.val = u
    · subst e; simp
    · rcases hp with rfl | hp
      · exact absurd rfl e
      · rw [nbS_tb _ (by omega) hu, decide_eq_false e, Bool.false_or]
        have : ((setsF Fs).any fun s => tb s v.val && tb s u) = false := by
          rw [List.any_eq_false]
          intro s hs
          obtain ⟨G, hG, rfl⟩ := List.mem_map.1 hs
          simp [hp G hG]
        rw [this]
        rfl
theorem elimA_tb : ∀ (os : List Int) {Fs : List Fac}, Fine Fs → (∀ v ∈ os, 0 ≤ v ∧ v ≤ 3) → ∀ {u : Nat}, u ≤ 3 → ((u : Int) ∈ os ∨ ∀ F ∈ Fs, tb (setOf F.vs) u = false) → ∀ F ∈ elimA Fs os, tb (setOf F.vs) u = false
  | [], Fs, _, _, u, _, hp => by
    rcases hp with hp | hp
    · simp at hp
    · exact hp
  | v :: r, Fs, h, ho, u, hu, hp => by
    obtain ⟨V, hV, _⟩ := nat_three (ho v List.mem_cons_self)
    subst hV
    have hi := elimA_tb r (elim1_fine h V) (fun x hx => ho x (List.mem_cons_of_mem _ hx)) hu
    refine hi ?_
    by_cases hr : (u : Int) ∈ r
    · exact .inl hr
    · refine .inr (elim_tb h V hu ?_)
      rcases hp with hp | hp
      · rcases List.mem_cons.1 hp with e | e
        · exact .inl (by omega)
        · exact absurd e hr
      · exact .inr hp
/-- The factors of ones of the variables below k that an order leaves. -/
def remF (os : List Int) (k : Nat) : List Fac := ((List.range k).filter fun (v : Nat) => !decide ((v : Int) ∈ os)).map fun (v : Nat) => onesF (v : Int)
theorem remF_succ (os : List Int) (k : Nat) : remF os (k + 1) = remF os k ++ if (k : Int) ∈ os then [] else [onesF (k : Int)] := by
  unfold remF
  rw [List.range_succ, List.filter_append, List.map_append]
  congr 1
  by_cases h : (k : Int) ∈ os <;> simp [h]
theorem remF_mem {os : List Int} {k : Nat} {F : Fac} (hk : k ≤ 4) (h : F ∈ remF os k) : ∃ v : Fin 4, F = onesF (v.val : Int) ∧ (v.val : Int) ∉ os := by
  unfold remF at h
  obtain ⟨v, hv, rfl⟩ := List.mem_map.1 h
  obtain ⟨h1, h2⟩ := List.mem_filter.1 hv
  exact ⟨⟨v, by have := List.mem_range.1 h1; omega⟩, rfl, by simpa using h2⟩
theorem mB_ones : ∀ v : Fin 4, mB (onesF (v.val : Int)) = 1 := by decide +kernel
theorem ones_tb : ∀ v u : Fin 4, tb (setOf (onesF (v.val : Int)).vs) u.val = decide (v = u) := by decide +kernel
theorem remF_fine (os : List Int) {k : Nat} (hk : k ≤ 4) : Fine (remF os k) := fun F hF => by
  obtain ⟨v, rfl, _⟩ := remF_mem hk hF
  exact mB_ok (ones_ok v)
theorem pb_ones : ∀ {Gs : List Fac}, (∀ F ∈ Gs, mB F = 1) → pb Gs = 1
  | [], _ => rfl
  | F :: r, h => by rw [pb_cons, h F List.mem_cons_self, pb_ones fun G hG => h G (List.mem_cons_of_mem _ hG)]; rfl
theorem remF_pb (os : List Int) {k : Nat} (hk : k ≤ 4) : pb (remF os k) = 1 := pb_ones fun F hF => by
  obtain ⟨v, rfl, _⟩ := remF_mem hk hF
  exact mB_ones v
theorem ones_fold {st : Int} : ∀ {Gs : List Fac}, (∀ F ∈ Gs, fAt F st = 1) → Gs.foldl (fun m F => m * fAt F st) 1 = 1
  | [], _ => rfl
  | F :: r, h => by rw [List.foldl_cons, h F List.mem_cons_self]; exact ones_fold fun G hG => h G (List.mem_cons_of_mem _ hG)
theorem elimA_fine {Fs : List Fac} {os : List Int} (hf : Fine Fs) (ho : ∀ v ∈ os, 0 ≤ v ∧ v ≤ 3) : Fine (elimA Fs os) := by
  have := (elimA_all hf ho os.length (Nat.le_refl _)).1
  rwa [List.take_length] at this
theorem elim_fin {Fs : List Fac} {os : List Int} (hf : Fine Fs) (ho : ∀ v ∈ os, 0 ≤ v ∧ v ≤ 3) : prodF (remF os 4 ++ elimA Fs os) = facBy_ (lefO os) (prodAt (elimA Fs os)) := by
  have hR := elimA_fine hf ho
  have hF : Fine (remF os 4 ++ elimA Fs os) := fun F hF => (List.mem_append.1 hF).elim (remF_fine os (by decide) F) (hR F)
  obtain ⟨h1, h2, h3⟩ := prodF_all hF
  obtain ⟨A, _, hA, _⟩ := fac_set h1
  obtain ⟨B, hB⟩ := fin16 (lefO_bd os)
  have hAB : A = B := set_ext A B fun u => by
    rw [← hA, ← hB, h3 u.val (by omega), lefO_tb ho u]
    cases hd : decide ((u.val : Int) ∈ os)
    · refine List.any_eq_true.2 ⟨onesF (u.val : Int), List.mem_append_left _ ?_, ?_⟩
      · unfold remF
        exact List.mem_map.2 ⟨u.val, List.mem_filter.2 ⟨List.mem_range.2 u.isLt, by rw [hd]; rfl⟩, rfl⟩
      · rw [ones_tb u u]; simp
    · refine List.any_eq_false.2 fun F hF => ?_
      rcases List.mem_append.1 hF with hF | hF
      · obtain ⟨v, rfl, hv⟩ := remF_mem (by decide) hF
        have hne : v ≠ u := fun e => hv (e ▸ of_decide_eq_true hd)
        rw [ones_tb v u]
        simp [hne]
      · rw [elimA_tb os hf ho (by omega) (.inl (of_decide_eq_true hd)) F hF]
        decide
  refine (fac_eta h1).trans ?_
  rw [hA, hAB, hB]
  refine facBy_congr B fun st hs => ?_
  rw [h2 st hs]
  unfold prodAt
  rw [List.foldl_append, ones_fold fun F hF => by
    obtain ⟨v, rfl, _⟩ := remF_mem (by decide) hF
    exact ones_at (by omega) hs]
def okElO (Fs : List Fac) (os : List Int) : Bool := listOk Fs && orderOk os
def elimTo (Fs : List Fac) (os : List Int) : Fac := if okElO Fs os = true then facBy_ (lefO os) (prodAt (elimA Fs os)) else ⟨[], []⟩
theorem elimTo_len (Fs : List Fac) (os : List Int) : (elimTo Fs os).vs.length ≤ 4 ∧ (elimTo Fs os).ns.length ≤ 81 := by
  unfold elimTo
  cases okElO Fs os
  · rw [if_neg (by decide)]; exact ⟨by decide, by decide⟩
  · rw [if_pos rfl]
    obtain ⟨B, hB⟩ := fin16 (lefO_bd os)
    have h4 := over_ok B
    have h5 := pow_four h4.2.2
    rw [facBy_len]
    rw [hB]
    unfold facBy_
    dsimp only
    omega
end Go.Proofs.Ytaipdkfbkcknkaa

namespace Go.Proofs.Ytaipdkfbkcknkaa
set_option maxRecDepth 100000
set_option linter.unusedVariables false
open Go.RowKit
theorem prodAt_cons (F : Fac) (r : List Fac) (st : Int) : prodAt (F :: r) st = fAt F st * prodAt r st := by
  unfold prodAt
  rw [List.foldl_cons, fold_mul st r (1 * fAt F st), Int.one_mul]
theorem prodAt_part (p : Fac → Bool) (st : Int) : ∀ Fs, prodAt (Fs.filter p) st * prodAt (Fs.filter fun F => !p F) st = prodAt Fs st
  | [] => rfl
  | F :: r => by
    have ih := prodAt_part p st r
    cases hp : p F
    · rw [List.filter_cons_of_neg (by simp [hp]), List.filter_cons_of_pos (by simp [hp]), prodAt_cons, prodAt_cons, ← ih, Int.mul_left_comm]
    · rw [List.filter_cons_of_pos hp, List.filter_cons_of_neg (by simp [hp]), prodAt_cons, prodAt_cons, ← ih, Int.mul_assoc]
theorem prodAt_free {v st x : Int} (hs : 0 ≤ st ∧ st ≤ 80) (hv : 0 ≤ v ∧ v ≤ 3) (hx : 0 ≤ x ∧ x ≤ 2) : ∀ {Fs : List Fac}, Fine Fs → (∀ F ∈ Fs, v ∉ F.vs) → prodAt Fs (withValue st v x) = prodAt Fs st
  | [], _, _ => rfl
  | F :: r, hf, h => by
    rw [prodAt_cons, prodAt_cons, prodAt_free hs hv hx (fun G hG => hf G (List.mem_cons_of_mem _ hG)) fun G hG => h G (List.mem_cons_of_mem _ hG)]
    congr 1
    refine fAt_agree fun u hu => ?_
    have hub := (fac_parts (hf F List.mem_cons_self)).2.2.2.2 u hu
    exact (valueAt_with hs hv hx).2 u hub.1 hub.2 (fun e => h F List.mem_cons_self (e ▸ hu))
theorem prodAt_snoc (Fs : List Fac) (F : Fac) (st : Int) : prodAt (Fs ++ [F]) st = prodAt Fs st * fAt F st := by
  unfold prodAt
  rw [List.foldl_append]
  rfl
/-- The sum over the first values of a variable. -/
def sE (Fs : List Fac) (v st : Int) : Nat → Int
  | 0 => 0
  | k + 1 => sE Fs v st k + prodAt Fs (withValue st v (k : Int))
theorem elim1_sum {Fs : List Fac} (h : Fine Fs) (v : Fin 4) {st : Int} (hs : 0 ≤ st ∧ st ≤ 80) : prodAt (elim1 Fs (v.val : Int)) st = sE Fs (v.val : Int) st 3 := by
  have hv : 0 ≤ (v.val : Int) ∧ (v.val : Int) ≤ 3 := by omega
  obtain ⟨h1, h2, _⟩ := prodV_all h v
  have e : ∀ x : Int, 0 ≤ x ∧ x ≤ 2 → prodAt Fs (withValue st (v.val : Int) x) = prodAt (havF Fs (v.val : Int)) (withValue st (v.val : Int) x) * prodAt (witF Fs (v.val : Int)) st := fun x hx => by
    rw [← prodAt_part (hasF (v.val : Int)) _ Fs]
    congr 1
    refine prodAt_free hs hv hx (fine_filter h _) fun F hF => ?_
    have := (List.mem_filter.1 hF).2
    unfold hasF at this
    simpa using this
  unfold elim1
  rw [prodAt_snoc]
  unfold elimF
  rw [fOut_at h1 hv hs, h2 _ (with_bd hs hv (by decide)), h2 _ (with_bd hs hv (by decide)), h2 _ (with_bd hs hv (by decide))]
  rw [if_pos (.inl (by decide)), if_pos (.inl (by decide)), if_pos (.inl (by decide))]
  show _ = 0 + prodAt Fs (withValue st (v.val : Int) 0) + prodAt Fs (withValue st (v.val : Int) 1) + prodAt Fs (withValue st (v.val : Int) 2)
  rw [e 0 (by decide), e 1 (by decide), e 2 (by decide), Int.zero_add, ← Int.add_mul, ← Int.add_mul, Int.mul_comm]
end Go.Proofs.Ytaipdkfbkcknkaa

namespace Go.Proofs.Ytaipdkfbkcknkaa
set_option maxRecDepth 100000
set_option linter.unusedVariables false
theorem isum_perm {a b : List Int} (h : a.Perm b) : isum a = isum b := by
  induction h with
  | nil => rfl
  | cons x _ ih => unfold isum; rw [ih]
  | swap x y l =>
    unfold isum isum
    omega
  | trans _ _ h1 h2 => exact h1.trans h2
end Go.Proofs.Ytaipdkfbkcknkaa

namespace Go.Proofs.Ytaipdkfbkcknkaa
set_option maxRecDepth 100000
set_option linter.unusedVariables false
open Go.RowKit
/-- The states that a state stands for when the variables of an order are gone. -/
def stsE : List Int → Int → List Int
  | [], st => [st]
  | v :: r, st => (stsE r st).flatMap fun s => [withValue s v 0, withValue s v 1, withValue s v 2]
theorem stsE_bd : ∀ {os : List Int}, (∀ v ∈ os, 0 ≤ v ∧ v ≤ 3) → ∀ {st : Int}, 0 ≤ st ∧ st ≤ 80 → ∀ s ∈ stsE os st, 0 ≤ s ∧ s ≤ 80
  | [], _, st, hs, s, h => by rw [List.mem_singleton.1 h]; exact hs
  | v :: r, ho, st, hs, s, h => by
    obtain ⟨q, hq, hm⟩ := List.mem_flatMap.1 h
    have hb := stsE_bd (fun x hx => ho x (List.mem_cons_of_mem _ hx)) hs q hq
    have hv := ho v List.mem_cons_self
    rcases List.mem_cons.1 hm with rfl | hm
    · exact with_bd hb hv (by decide)
    · rcases List.mem_cons.1 hm with rfl | hm
      · exact with_bd hb hv (by decide)
      · rw [List.mem_singleton.1 hm]; exact with_bd hb hv (by decide)
theorem isum_three (g : Int → Int) (v : Int) : ∀ l : List Int, isum ((l.flatMap fun s => [withValue s v 0, withValue s v 1, withValue s v 2]).map g) = isum (l.map fun s => g (withValue s v 0) + g (withValue s v 1) + g (withValue s v 2))
  | [] => rfl
  | s :: r => by
    rw [List.flatMap_cons, List.map_append, isum_append, isum_three g v r, List.map_cons]
    show (g (withValue s v 0) + (g (withValue s v 1) + (g (withValue s v 2) + 0))) + _ = (g (withValue s v 0) + g (withValue s v 1) + g (withValue s v 2)) + _
    omega
theorem elimA_sum : ∀ (os : List Int) {Fs : List Fac}, Fine Fs → (∀ v ∈ os, 0 ≤ v ∧ v ≤ 3) → ∀ {st : Int}, 0 ≤ st ∧ st ≤ 80 → prodAt (elimA Fs os) st = isum ((stsE os st).map (prodAt Fs))
  | [], Fs, _, _, st, _ => by show prodAt Fs st = prodAt Fs st + 0; omega
  | v :: r, Fs, h, ho, st, hs => by
    obtain ⟨V, hV, _⟩ := nat_three (ho v List.mem_cons_self)
    subst hV
    have hr := fun x hx => ho x (List.mem_cons_of_mem _ hx)
    show prodAt (elimA (elim1 Fs (V.val : Int)) r) st = isum (((stsE r st).flatMap _).map (prodAt Fs))
    rw [elimA_sum r (elim1_fine h V) hr hs, isum_three]
    congr 1
    refine List.map_congr_left fun s hsm => ?_
    rw [elim1_sum h V (stsE_bd hr hs s hsm)]
    show 0 + prodAt Fs (withValue s (V.val : Int) 0) + prodAt Fs (withValue s (V.val : Int) 1) + prodAt Fs (withValue s (V.val : Int) 2) = _
    omega
/-- The states that go to a place. -/
def agr (L : Int) (i : Nat) : List Int := ((List.range 81).filter fun (s : Nat) => decide (idx (over L) (s : Int) = (i : Int))).map fun (s : Nat) => (s : Int)
theorem sts_agr : ∀ o ∈ ordsAll, ∀ i : Nat, i < 3 ^ (over (lefO (nats o))).length → (stsE (nats o) (stOf (over (lefO (nats o))) (i : Int))).isPerm (agr (lefO (nats o)) i) = true := by decide +kernel
theorem facBy_agr {Fs : List Fac} (h : Fine Fs) {os : List Int} (ho : orderOk os = true) : facBy_ (lefO os) (prodAt (elimA Fs os)) = ⟨over (lefO os), (List.range (3 ^ (over (lefO os)).length)).map fun (i : Nat) => isum ((agr (lefO os) i).map (prodAt Fs))⟩ := by
  obtain ⟨h1, h2, h3, _⟩ := oOk_mem ho
  unfold facBy_
  congr 1
  refine List.map_congr_left fun i hi => ?_
  have hi' := List.mem_range.1 hi
  obtain ⟨L, hL⟩ := fin16 (lefO_bd os)
  have hst : 0 ≤ stOf (over (lefO os)) (i : Int) ∧ stOf (over (lefO os)) (i : Int) ≤ 80 := by
    have h4 := pow_four (over_ok L).2.2
    rw [hL] at hi' ⊢
    exact (st_idx L ⟨i, by omega⟩ hi').2
  rw [elimA_sum os h h3 hst]
  have hp := sts_agr (natsOf os) h1 i (by rw [h2]; exact hi')
  rw [h2] at hp
  exact isum_perm ((List.isPerm_iff.1 hp).map _)
end Go.Proofs.Ytaipdkfbkcknkaa

namespace Go.Proofs.Ytaipdkfbkcknkaa
set_option maxRecDepth 100000
set_option linter.unusedVariables false
open Go.RowKit
theorem nats_len (p : List Nat) : (nats p).length = p.length := List.length_map _
theorem nats_mem {p : List Nat} {v : Nat} : ((v : Int) ∈ nats p) ↔ v ∈ p := by
  unfold nats
  rw [List.mem_map]
  constructor
  · rintro ⟨a, ha, e⟩
    have : a = v := by omega
    exact this ▸ ha
  · exact fun h => ⟨v, h, rfl⟩
theorem nats_append (p : List Nat) (v : Nat) : nats (p ++ [v]) = nats p ++ [(v : Int)] := by unfold nats; rw [List.map_append]; rfl
end Go.Proofs.Ytaipdkfbkcknkaa
