/- The program's sweep to the end. The program's sweepOf. The program's weightsIn; the weights of all states, as plain functions. The program's WeightsFrom and WeightsOf. The program's TotalOf and Reached. -/
import Derived.Test.YtbndonfpdioibaaSm
import Derived.Test.YtbndonfpdioibaaSwh
import Derived.Test.YtbndonfpdioibaaSwx
import Derived.Test.YtbndonfpdioibaaUn
namespace Go.Proofs.Ytbndonfpdioibaa
set_option maxRecDepth 100000
set_option linter.unusedVariables false
open Go.RowKit

theorem voN_zero {L st : Int} (hs : 0 ≤ st ∧ st ≤ 80) : ∀ (v : Nat), v ≤ 4 → ∀ i : Nat, i < v → tb L i = false → valueAt (voN L st v) i = 0
  | 0, _, i, h, _ => absurd h (by omega)
  | v + 1, hv, i, hi, ht => by
    have hb := voN_bd (L := L) hs v (by omega)
    have hw := valueAt_with (x := 0) hb (show 0 ≤ (v : Int) ∧ (v : Int) ≤ 3 by omega) (by decide)
    rw [voN]
    unfold vo1
    by_cases he : i = v
    · subst he
      rw [if_neg (by rw [ht]; decide)]
      exact hw.1
    · split
      · exact voN_zero hs v (by omega) i (by omega) ht
      · rw [hw.2 i (by omega) (by omega) (by omega)]
        exact voN_zero hs v (by omega) i (by omega) ht
theorem vo_vo {L st : Int} (hs : 0 ≤ st ∧ st ≤ 80) : vo L (vo L st) = vo L st := by
  have h1 := vo_bd (L := L) hs
  refine agree_all (vo_bd h1) h1 fun v hv _ => ?_
  cases ht : tb L v
  · exact (voN_zero h1 4 (by decide) v (by omega) ht).trans (voN_zero hs 4 (by decide) v (by omega) ht).symm
  · exact vo_agree h1 v hv ht
/-- All runs have 0 for what is over. -/
def Nrm (asked : Int) (os : List St) (F : Nat → Fr) : Prop := ∀ t, ∀ p ∈ F t, vo ((lives asked os).getD t 0) p.1 = p.1
theorem addR_mem : ∀ {rs : Fr} {z w : Int} {p : Int × Int}, p ∈ addR rs z w → p.1 = z ∨ ∃ q ∈ rs, q.1 = p.1
  | [], z, w, p, h => by
    rw [addR, List.mem_singleton] at h
    subst h
    exact .inl rfl
  | (s, u) :: r, z, w, p, h => by
    rw [addR] at h
    split at h
    · rcases List.mem_cons.1 h with rfl | h
      · exact .inr ⟨_, List.mem_cons_self, rfl⟩
      · exact .inr ⟨p, List.mem_cons_of_mem _ h, rfl⟩
    · rcases List.mem_cons.1 h with rfl | h
      · exact .inr ⟨_, List.mem_cons_self, rfl⟩
      · rcases addR_mem h with h | ⟨q, hq, e⟩
        · exact .inl h
        · exact .inr ⟨q, List.mem_cons_of_mem _ hq, e⟩
theorem Nrm.nil (asked : Int) (os : List St) : Nrm asked os (fun _ => []) := fun t p hp => by simp at hp
theorem Nrm.put {asked : Int} {os : List St} {m : Nat} {F : Nat → Fr} {r : Rn} (h : Nrm asked os F) (hs : 0 ≤ r.st ∧ r.st ≤ 80) : Nrm asked os (toF m (lives asked os) F r) := by
  unfold toF
  split
  · exact h
  · intro t p hp
    by_cases ht : t = min r.pos m
    · rw [ht, upd_at] at hp
      rcases addR_mem hp with e | ⟨q, hq, e⟩
      · rw [e, ht]
        exact vo_vo hs
      · rw [← e, ht]
        exact h _ q hq
    · rw [upd_ne ht] at hp
      exact h t p hp
/-- What holds of the fronts while those at i are done; rest: the runs that are still to do there; T: what all are worth. -/
def Gst (asked : Int) (os : List St) (m : Nat) (T : (Int → Int) → Int) (F : Nat → Fr) (i : Nat) (rs : Fr) : Prop :=
  (∀ t, FrOk (F t)) ∧ (∀ t, ∀ p ∈ F t, p.2 ≤ 1000000000000000000) ∧ (∀ t, m < t → F t = []) ∧ sumV (V2 m i) rs + tailV (V2 m) F (i + 1) (m - i) ≤ 1000000000000000000 ∧
  (∀ h, Resp asked h → sumV (valAt h os i) rs + tailV (valAt h os) F (i + 1) (m - i) = T h) ∧ (∀ p ∈ rs, p ∈ F i) ∧ Nrm asked os F

theorem fD_nrm {asked : Int} {os : List St} {m : Nat} {F : Nat → Fr} {s : St} {r : Rn} (hok : s.ok = true) (h : Nrm asked os F) (hs : 0 ≤ r.st ∧ r.st ≤ 80) : ∀ (d : Nat), d ≤ 3 → Nrm asked os (fD m (lives asked os) F s r d)
  | 0, _ => h
  | d + 1, hd => by
    rw [fD]
    exact (fD_nrm hok h hs d (by omega)).put (r := Rn.step s r d) (next_bd hok hs (by omega))
theorem fD_far {m : Nat} {lv : List Int} {F : Nat → Fr} {s : St} {r : Rn} {t : Nat} (ht : m < t) : ∀ d, fD m lv F s r d t = F t
  | 0 => rfl
  | d + 1 => by
    rw [fD]
    unfold toF
    split
    · exact fD_far ht d
    · rw [upd_ne (by omega)]; exact fD_far ht d
theorem fD_all {m : Nat} {lv : List Int} {F : Nat → Fr} {s : St} {r : Rn} (hok : s.ok = true) (hw : 0 ≤ r.wt) (him : r.pos < m) : tailV (V2 m) (fD m lv F s r s.many) (r.pos + 1) (m - r.pos) ≤ tailV (V2 m) F (r.pos + 1) (m - r.pos) + r.wt * V2 m r.pos 0 := by
  have h2 := fD_bd (m := m) (lv := lv) (F := F) hok hw him s.many
  have hV1 := V2_ge m (r.pos + 1) 0
  have h3 : (s.many : Int) * (9 * r.wt * V2 m (r.pos + 1) 0) ≤ 3 * (9 * r.wt * V2 m (r.pos + 1) 0) := Int.mul_le_mul_of_nonneg_right (by have := many_le s; omega) (Int.mul_nonneg (by omega) (by omega))
  have h4 : 3 * (9 * r.wt * V2 m (r.pos + 1) 0) = r.wt * V2 m r.pos 0 := by
    rw [V2_succ him 0 0, ← Int.mul_assoc 3, ← Int.mul_assoc 3, ← Int.mul_assoc r.wt, Int.mul_comm r.wt 27]
    rfl
  omega

theorem Gst.need {asked : Int} {os : List St} {m : Nat} {T : (Int → Int) → Int} {F : Nat → Fr} {i : Nat} {st wt : Int} {rs : Fr} (h : Gst asked os m T F i ((st, wt) :: rs)) : tailV (V2 m) F (i + 1) (m - i) + wt * V2 m i 0 ≤ 1000000000000000000 := by
  have h4 := h.2.2.2.1
  rw [sumV] at h4
  have h5 := sumV_nonneg (v := V2 m i) (rs := rs) (fun p hp => by
    have := ((h.1 i).1 p (h.2.2.2.2.2.1 p (List.mem_cons_of_mem _ hp))).2
    have := V2_ge m i p.1
    exact ⟨by omega, by omega⟩)
  have e : V2 m i st = V2 m i 0 := rfl
  rw [e] at h4
  omega
theorem Gst.step {asked : Int} {os : List St} {m : Nat} {T : (Int → Int) → Int} {F : Nat → Fr} {i : Nat} {st wt : Int} {rs : Fr} {s : St} (h : Gst asked os m T F i ((st, wt) :: rs)) (hm : os.length = m) (hok : ∀ s ∈ os, s.ok = true ∧ s.notLoop = true) (him : i < m) (hs : os[i]? = some s) :
    Gst asked os m T (fD m (lives asked os) F s ⟨i, st, wt⟩ s.many) i rs := by
  have hn := h.need
  obtain ⟨h1, h2, h3, h4, h5, h6, h7⟩ := h
  have hp := (h1 i).1 _ (h6 _ List.mem_cons_self)
  have hst : 0 ≤ st ∧ st ≤ 80 := hp.1
  have hwt : 0 < wt := hp.2
  have hsk := (hok s (List.mem_of_getElem? hs)).1
  have hb := fD_all (m := m) (lv := lives asked os) (F := F) (s := s) (r := ⟨i, st, wt⟩) hsk (show 0 ≤ wt by omega) him
  have hF := fD_ok (m := m) (lv := lives asked os) (F := F) (s := s) (r := ⟨i, st, wt⟩) hsk h1 hst (show 0 ≤ wt by omega) s.many (many_le s)
  refine ⟨hF, fun t p hp => ?_, fun t ht => by rw [fD_far ht]; exact h3 t ht, ?_, fun q hq => ?_, fun p hp => by rw [fD_le (r := ⟨i, st, wt⟩) him _ _ (Nat.le_refl _)]; exact h6 p (List.mem_cons_of_mem _ hp), fD_nrm hsk h7 hst s.many (many_le s)⟩
  · by_cases ht : t ≤ i
    · rw [fD_le (r := ⟨i, st, wt⟩) him _ t ht] at hp
      exact h2 t p hp
    · by_cases htm : t ≤ m
      · have := tailV_ge (V := V2 m) hF (V2_ge m) (m - i) (i + 1) t (by omega) (by omega) p hp
        have hb' : tailV (V2 m) (fD m (lives asked os) F s ⟨i, st, wt⟩ s.many) (i + 1) (m - i) ≤ tailV (V2 m) F (i + 1) (m - i) + wt * V2 m i 0 := hb
        omega
      · rw [fD_far (by omega), h3 t (by omega)] at hp
        simp at hp
  · rw [sumV] at h4
    have hb' : tailV (V2 m) (fD m (lives asked os) F s ⟨i, st, wt⟩ s.many) (i + 1) (m - i) ≤ tailV (V2 m) F (i + 1) (m - i) + wt * V2 m i 0 := hb
    have e : V2 m i st = V2 m i 0 := rfl
    rw [e] at h4
    omega
  · have hv := fD_val (F := F) (s := s) (r := ⟨i, st, wt⟩) hm hq hok hst him hs
    have hv' : tailV (valAt q os) (fD m (lives asked os) F s ⟨i, st, wt⟩ s.many) (i + 1) (m - i) = tailV (valAt q os) F (i + 1) (m - i) + wt * valAt q os i st := hv
    have := h5 q hq
    rw [sumV] at this
    rw [hv']
    omega
theorem Gst.next {asked : Int} {os : List St} {m : Nat} {T : (Int → Int) → Int} {F : Nat → Fr} {i : Nat} (h : Gst asked os m T F i []) (him : i < m) : Gst asked os m T F (i + 1) (F (i + 1)) := by
  obtain ⟨h1, h2, h3, h4, h5, h6, h7⟩ := h
  have e : m - i = (m - (i + 1)) + 1 := by omega
  refine ⟨h1, h2, h3, ?_, fun q hq => ?_, fun p hp => hp, h7⟩
  · rw [e, tailV] at h4
    simp only [sumV] at h4
    omega
  · have := h5 q hq
    rw [e, tailV] at this
    simp only [sumV] at this
    omega

/-- How the sweep ends. -/
def GoOnd (w : World) (asked : Int) (base g gl gf m : Nat) (A : Option Addr) (c : Nat) (os : List St) (T : (Int → Int) → Int) (vs : Nat → Value) (e : Ending) (w' : World) : Prop :=
  ∃ F' vs', e = .returned (vs' m) ∧ Swp w' base g gl gf m A c os (lives asked os) F' vs' ∧ Swk w w' gf m vs vs' ∧ FrOk (F' m) ∧ sumV (fun _ => 1) (F' m) ≤ 1000000000000000000 ∧ (∀ h, Resp asked h → sumV h (F' m) = T h) ∧ Nrm asked os F'

/-- How the sweep ends, with what else holds of the fronts. -/
def GoOnx (X : (Nat → Fr) → Nat → Fr → Prop) (w : World) (asked : Int) (base g gl gf m : Nat) (A : Option Addr) (c : Nat) (os : List St) (T : (Int → Int) → Int) (vs : Nat → Value) (e : Ending) (w' : World) : Prop :=
  ∃ F' vs', e = .returned (vs' m) ∧ Swp w' base g gl gf m A c os (lives asked os) F' vs' ∧ Swk w w' gf m vs vs' ∧ FrOk (F' m) ∧ sumV (fun _ => 1) (F' m) ≤ 1000000000000000000 ∧ (∀ h, Resp asked h → sumV h (F' m) = T h) ∧ Nrm asked os F' ∧ X F' m (F' m)

set_option maxHeartbeats 4000000 in
theorem goOn_gen (X : (Nat → Fr) → Nat → Fr → Prop) (w : World) (asked : Int) (base g gl gf m : Nat) (A : Option Addr) (c : Nat) (os : List St) (F : Nat → Fr) (vs : Nat → Value) (T : (Int → Int) → Int) (h : Swp w base g gl gf m A c os (lives asked os) F vs) (hm : m ≤ 12) (hM : os.length = m) (hok : ∀ s ∈ os, s.ok = true ∧ s.notLoop = true) (hlv : LvOk m (lives asked os)) (hG : Gst asked os m T F 0 (F 0)) (hX0 : X F 0 (F 0))
    (hXs : ∀ (Fk : Nat → Fr) (i : Nat) (st wt : Int) (rs : Fr) (s : St), Gst asked os m T Fk i ((st, wt) :: rs) → i < m → os[i]? = some s → X Fk i ((st, wt) :: rs) → X (fD m (lives asked os) Fk s ⟨i, st, wt⟩ s.many) i rs)
    (hXn : ∀ (Fk : Nat → Fr) (i : Nat), i < m → X Fk i [] → X Fk (i + 1) (Fk (i + 1))) :
    Calls Try.prog 142 #[.pointer (some ⟨g, 0, none⟩)] w (GoOnx X w asked base g gl gf m A c os T vs) := by
  have hS0 := Lib.hid h
  have hG0 := Lib.hid (And.intro hG hX0)
  have hXs1 := Lib.hid hXs
  have hXn1 := Lib.hid hXn
  have hMo := Lib.hid hM
  have hOk := Lib.hid hok
  have hLv := Lib.hid hlv
  have e0 := h.1.cell
  have hm9 : m ≤ 9223372036854775807 := by omega
  clear h hG hM hok hlv hX0 hXs hXn
  go_enter Try.func142, Try.ntmps142
  go_wp2_with fail
  clear e0
  go_loopg [11] m (fun gn v wr => ∃ (i : Nat) (Fi : Nat → Fr) (vi : Nat → Value), i ≤ m ∧ gn = m - i ∧ v = .int .i64 i ∧ Swp wr base g gl gf m A c os (lives asked os) Fi vi ∧ Swk w wr gf m vs vi ∧ (Gst asked os m T Fi i (Fi i) ∧ X Fi i (Fi i)))
  case atStart => exact ⟨0, F, vs, Nat.zero_le _, rfl, rfl, hS0.out, Swk.refl _ _ _ _, hG0.out⟩
  case round =>
    obtain ⟨i, Fi, vi, hi, hgn, rfl, hSw, hKw, hGs⟩ := hrel
    have hgni : gk = m - i := hgn
    clear hgn
    by_cases him : i < m
    · obtain ⟨s, hso⟩ : ∃ s, os[i]? = some s := ⟨_, List.getElem?_eq_getElem (by rw [hMo.out]; exact him)⟩
      have hSo := Lib.hid hso
      clear hso
      have hcg := hSw.1.cell
      obtain ⟨⟨cs, hcf, hfa⟩, hrow, _⟩ := hSw.2.2.2.1
      have f0 : wr.cell? ⟨gf, i * 82, none⟩ = some (vi i) := (hcf.cell _).trans (hfa.2 i (by omega)).1
      obtain ⟨Ax, cx, hvx, hxc, hxm⟩ := owns_form (hrow i (by omega))
      have hVx := Lib.hid hvx
      rw [hvx] at f0
      have hFl := (hGs.1.1 i).len
      have hSw' := Lib.hid hSw
      have hKw' := Lib.hid hKw
      have hGs' := Lib.hid hGs
      obtain ⟨rs, hrs⟩ : ∃ rs, rs = Fi i := ⟨_, rfl⟩
      rw [← hrs] at hGs' f0 hVx hFl hxc
      have hRs := Lib.hid hrs
      generalize hn : rs.length = n at f0 hVx hFl hxc
      have hN := Lib.hid hn
      have hi0 : (0 : Int) ≤ (i : Int) := by omega
      have hi1 : (i : Int) < (m : Int) + 1 := by omega
      have hi2 : i < m + 1 := by omega
      have hn9 : n ≤ 9223372036854775807 := by omega
      clear hSw hKw hGs hcf hfa hrow hvx hrs hn
      go_wp2_with fail
      clear hcg f0
      obtain ⟨wo, rfl⟩ : ∃ wo : World, wo = wr := ⟨_, rfl⟩
      obtain ⟨go, rfl⟩ : ∃ go : Nat, go = gk := ⟨_, rfl⟩
      go_loopg [23] n (fun gn v wr => ∃ (k : Nat) (Fk : Nat → Fr) (vk : Nat → Value), k ≤ n ∧ gn = n - k ∧ v = .int .i64 k ∧ Swp wr base g gl gf m A c os (lives asked os) Fk vk ∧ Swk w wr gf m vs vk ∧ (Gst asked os m T Fk i (rs.drop k) ∧ X Fk i (rs.drop k)) ∧ Fk i = rs ∧ vk i = .slice Ax n cx)
      case atStart => exact ⟨0, Fi, vi, Nat.zero_le _, rfl, rfl, hSw'.out, hKw'.out, hGs'.out, hRs.out.symm, hVx.out⟩
      case round =>
        obtain ⟨k, Fk, vk, hk, hgn2, rfl, hSk, hKk, hGk, hFk, hvk⟩ := hrel
        have hgk2 : gk = n - k := hgn2
        have hFk' := Lib.hid hFk
        have hvk' := Lib.hid hvk
        clear hgn2
        by_cases hlt : k < n
        · obtain ⟨p, hp⟩ : ∃ p, rs[k]? = some p := ⟨_, List.getElem?_eq_getElem (by rw [hN.out]; exact hlt)⟩
          obtain ⟨st, wt⟩ := p
          have hdr : rs.drop k = (st, wt) :: rs.drop (k + 1) := by
            rw [List.drop_eq_getElem_cons (by rw [hN.out]; exact hlt), (List.getElem?_eq_some_iff.1 hp).2]
          rw [hdr] at hGk
          have hrowk := hSk.2.2.2.1.2.1 i (by omega)
          rw [hvk, hFk, hN.out] at hrowk
          obtain ⟨b, curb, rfl, _, hhb, _, _, _, hbc⟩ := owns_open hrowk (by omega)
          have hrp := rns_at (i := i) hp
          have e0 : wr.cell? ⟨b, k * 3, none⟩ = some (.int .i64 i) := (hbc _ (by omega)).trans (rnflat_at (q := 0) hrp rfl)
          have e1 : wr.cell? ⟨b, k * 3 + 1, none⟩ = some (.int .i64 st) := (hbc _ (by omega)).trans (rnflat_at (q := 1) hrp rfl)
          have e2 : wr.cell? ⟨b, k * 3 + 2, none⟩ = some (.int .i64 wt) := (hbc _ (by omega)).trans (rnflat_at (q := 2) hrp rfl)
          have hpk := (hGk.1.1 i).1 _ (hGk.1.2.2.2.2.2.1 _ List.mem_cons_self)
          have hst : 0 ≤ st ∧ st ≤ 80 := hpk.1
          have hwt : 0 < wt := hpk.2
          have hB5 : Below wr.heap.size wr (wr.alloc (.cells #[.int .i64 i, .int .i64 st, .int .i64 wt] 101)) := (Below.refl _ _).alloc (Nat.le_refl _) _
          have hS5 := hSk.below hB5
          have cS := Lib.hid (step_any (wr.alloc (.cells #[.int .i64 i, .int .i64 st, .int .i64 wt] 101)) base g gl gf m A c os (lives asked os) Fk vk s ⟨i, st, wt⟩ hS5 hm hMo.out hLv.out hGk.1.1 hst hwt him hSo.out ((hOk.out s (List.mem_of_getElem? hSo.out)).1) hGk.1.2.1 hGk.1.need hGk.1.2.2.1)
          have hGn := Lib.hid (And.intro (hGk.1.step hMo.out hOk.out him hSo.out) (hXs1.out _ _ _ _ _ _ hGk.1 him hSo.out hGk.2))
          have hK5 := Lib.hid (hKk.trans (Swk.below (gf := gf) (m := m) (vs := vk) hB5))
          have hFi' := Lib.hid (show fD m (lives asked os) Fk s ⟨i, st, wt⟩ s.many i = rs from (fD_le (r := ⟨i, st, wt⟩) him _ i (Nat.le_refl _)).trans hFk)
          have hk0 : (0 : Int) ≤ (k : Int) := by omega
          have hk1 : (k : Int) < (n : Int) := by omega
          clear hSk hKk hGk hFk hvk hp hdr hrowk hhb hbc hrp hpk hS5 hB5
          go_wp2_with fail
          refine (cS.out).mono ?_
          rintro e w6 ⟨rfl, v6, hS6, hK6, hv6⟩
          have hS6' := Lib.hid hS6
          have hK6' := Lib.hid (hK5.out.trans hK6)
          have hv6' := Lib.hid ((hv6 i (Nat.le_refl _)).trans hvk'.out)
          clear hS6 hK6 hv6 e0 e1 e2
          go_wp2_with fail
          go_roundg (n - (k + 1))
          case measure => omega
          case rel => exact ⟨k + 1, _, v6, by omega, rfl, by go_num, hS6'.out, hK6'.out, hGn.out, hFi'.out, hv6'.out⟩
        · obtain rfl : k = n := by omega
          have hGk' := Lib.hid (show Gst asked os m T Fk (i + 1) (Fk (i + 1)) ∧ X Fk (i + 1) (Fk (i + 1)) from by
            rw [List.drop_eq_nil_of_le (by rw [hN.out]; exact Nat.le_refl _)] at hGk
            exact ⟨hGk.1.next him, hXn1.out _ _ him hGk.2⟩)
          have hSk' := Lib.hid hSk
          have hKk' := Lib.hid hKk
          clear hSk hKk hGk hFk hvk
          go_wp2_with fail
          go_roundg (m - (i + 1))
          case measure => omega
          case rel => exact ⟨i + 1, Fk, vk, by omega, rfl, by go_num, hSk'.out, hKk'.out, hGk'.out⟩
    · obtain rfl : i = m := by omega
      have hcg := hSw.1.cell
      obtain ⟨⟨cs, hcf, hfa⟩, hrow, _⟩ := hSw.2.2.2.1
      have f0 : wr.cell? ⟨gf, i * 82, none⟩ = some (vi i) := (hcf.cell _).trans (hfa.2 i (by omega)).1
      have hSw' := Lib.hid hSw
      have hKw' := Lib.hid hKw
      have hFin := Lib.hid (show FrOk (Fi i) ∧ sumV (fun _ => 1) (Fi i) ≤ 1000000000000000000 ∧ (∀ h, Resp asked h → sumV h (Fi i) = T h) ∧ Nrm asked os Fi ∧ X Fi i (Fi i) from by
        obtain ⟨⟨h1, h2, h3, h4, h5, h6, h7⟩, h8⟩ := hGs
        refine ⟨h1 i, ?_, fun h hh => ?_, h7, h8⟩
        · rw [Nat.sub_self, tailV] at h4
          have e : V2 i i = fun _ => 1 := by
            funext x
            unfold V2
            rw [Nat.sub_self]; rfl
          rw [e] at h4
          omega
        · have := h5 h hh
          rw [Nat.sub_self, tailV] at this
          rw [← this, Int.add_zero]
          exact sumV_congr (fun p _ => (valAt_end (by rw [hMo.out]; exact Nat.le_refl _) p.1).symm))
      have hi0 : (0 : Int) ≤ (i : Int) := by omega
      have hi1 : (i : Int) < (i : Int) + 1 := by omega
      have hi2 : i < i + 1 := by omega
      obtain ⟨Ax, cx, hvx, hxc, hxm⟩ := owns_form (hrow i (by omega))
      have hVx := Lib.hid hvx
      rw [hvx] at f0
      clear hSw hKw hGs hcf hfa hrow hvx
      go_wp2_with fail
      go_quiet (fail)
      go_wp2_with fail
      go_ret
      refine ⟨Fi, vi, by rw [hVx.out]; rfl, hSw'.out.below (below_drewN (Below.refl _ _) _), hKw'.out.trans (Swk.below (below_drewN (Below.refl _ _) _)), hFin.out.1, hFin.out.2.1, hFin.out.2.2.1, hFin.out.2.2.2.1, hFin.out.2.2.2.2⟩
theorem goOn_any (w : World) (asked : Int) (base g gl gf m : Nat) (A : Option Addr) (c : Nat) (os : List St) (F : Nat → Fr) (vs : Nat → Value) (T : (Int → Int) → Int) (h : Swp w base g gl gf m A c os (lives asked os) F vs) (hm : m ≤ 12) (hM : os.length = m) (hok : ∀ s ∈ os, s.ok = true ∧ s.notLoop = true) (hlv : LvOk m (lives asked os)) (hG : Gst asked os m T F 0 (F 0)) :
    Calls Try.prog 142 #[.pointer (some ⟨g, 0, none⟩)] w (GoOnd w asked base g gl gf m A c os T vs) := by
  refine (goOn_gen (fun _ _ _ => True) w asked base g gl gf m A c os F vs T h hm hM hok hlv hG trivial (fun _ _ _ _ _ _ _ _ _ h => h) (fun _ _ _ h => h)).mono ?_
  rintro e w' ⟨F', vs', h1, h2, h3, h4, h5, h6, h7, _⟩
  exact ⟨F', vs', h1, h2, h3, h4, h5, h6, h7⟩
end Go.Proofs.Ytbndonfpdioibaa

namespace Go.Proofs.Ytbndonfpdioibaa
set_option maxRecDepth 100000
set_option linter.unusedVariables false
open Go.RowKit

/-- A front without runs. -/
def zeroF : Value := .agg (List.toArray (.slice none 0 0 :: List.replicate 81 (.int .i64 0)))
theorem info_front : (Try.prog.info? 153).map (fun i => (i.zero, i.size, i.bytes)) = some (some zeroF, 82, 672) := by kernel_rfl
theorem zeroF_cells : zeroF.cells = List.toArray (.slice none 0 0 :: List.replicate 81 (.int .i64 0)) := by kernel_rfl
theorem zeroF_size : zeroF.cells.size = 82 := by rw [zeroF_cells]; rfl
theorem made_at {z : Array Value} {n i : Nat} (h : i < n) (hz : 0 < z.size) : (madeCells z n)[i]? = z[i % z.size]? := by
  have hi : i % z.size < z.size := Nat.mod_lt _ hz
  have hs : i < (madeCells z n).size := by rw [size_madeCells]; exact h
  rw [Array.getElem?_eq_getElem hs, Array.getElem?_eq_getElem hi]
  congr 1
  simp [madeCells]
  rw [getElem!_pos z _ hi]
theorem zeroF_at {i : Nat} (h0 : 0 < i) (h : i < 82) : zeroF.cells[i]? = some (.int .i64 0) := by
  obtain ⟨j, rfl⟩ : ∃ j, i = j + 1 := ⟨i - 1, by omega⟩
  rw [zeroF_cells, List.getElem?_toArray, List.getElem?_cons_succ, List.getElem?_replicate, if_pos (by omega)]
theorem made_FrA (m : Nat) : FrA (madeCells zeroF.cells ((m + 1) * 82)) (fun _ => .slice none 0 0) (fun _ => []) m := by
  refine ⟨size_madeCells _ _, fun i hi => ⟨?_, fun st hst => ?_⟩⟩
  · rw [made_at (by omega) (by rw [zeroF_size]; decide), zeroF_size, Nat.mul_mod_left]
    rw [zeroF_cells]; rfl
  · rw [made_at (by omega) (by rw [zeroF_size]; decide), zeroF_size, show i * 82 + 1 + st = (1 + st) + 82 * i by omega, Nat.add_mul_mod_self_left, Nat.mod_eq_of_lt (by omega)]
    exact zeroF_at (by omega) (by omega)

/-- How a sweep is made. -/
def Swd (w : World) (asked : Int) (m : Nat) (A : Option Addr) (c : Nat) (os : List St) (e : Ending) (w' : World) : Prop :=
  ∃ gl gf cs, e = .returned (.agg #[.slice A m c, .slice (some ⟨gl, 0, none⟩) (m + 1) (m + 1), .slice (some ⟨gf, 0, none⟩) (m + 1) (m + 1)]) ∧ w'.ownsRow w.heap.size 3 1 (.slice (some ⟨gl, 0, none⟩) (m + 1) (m + 1)) (m + 1) (ints (lives asked os)) ∧ Has w' gf 153 cs ∧ FrA cs (fun _ => .slice none 0 0) (fun _ => []) m ∧ w.heap.size ≤ gf ∧ Below w.heap.size w w'

set_option maxHeartbeats 2000000 in
theorem sweepOf_any (A : Option Addr) (m c : Nat) (os : List St) (asked : Int) (w : World) (h : Lst w w.heap.size A m os) (hm : m ≤ 12) (hok : os.all St.ok = true) (ha : 0 ≤ asked ∧ asked ≤ 15) :
    Calls Try.prog 139 #[.slice A m c, .int .i64 asked] w (Swd w asked m A c os) := by
  have cL := Lib.hid (fun wx hx => livesOf_any A m c os asked wx hx hm hok ha)
  have hH := Lib.hid h
  obtain ⟨i0, hi0, hz0, hz1', hz2'⟩ := info_parts info_front
  have hmk : ∀ wx : World, (Instr.makeSlice 142 (.int .i64 ((m : Int) + 1)) (.int .i64 ((m : Int) + 1))).run Try.prog wx = .ok (.slice (some ⟨wx.heap.size, 0, none⟩) (m + 1) (m + 1)) (wx.alloc (.cells (madeCells zeroF.cells ((m + 1) * 82)) 153)) := by
    intro wx
    have hr := run_make (P := Try.prog) wx 142 153 i0 _ Try.underlying142 hi0 hz0 .i64 .i64 ((m : Int) + 1) ((m : Int) + 1) (by omega) (by omega) (by rw [hz2']; omega) (by omega)
    rw [hz1'] at hr
    rw [show ((m : Int) + 1).toNat = m + 1 by omega] at hr
    exact hr
  have hR := Lib.hid (Has.new w 157 #[.slice none 0 0, .slice none 0 0, .slice none 0 0])
  have hB0 : Below w.heap.size w (w.alloc (.cells #[.slice none 0 0, .slice none 0 0, .slice none 0 0] 157)) := (Below.refl _ _).alloc (Nat.le_refl _) _
  have hFr := Lib.hid (made_FrA m)
  clear h
  go_enter Try.func139, Try.ntmps139
  go_wp2_with fail
  have hw1 : IntKind.i64.wrap ((m : Int) + 1) = (m : Int) + 1 := IntWalk.i64_in _ (by omega)
  generalize madeCells zeroF.cells ((m + 1) * 82) = cs at hmk hFr
  generalize hRR : w.heap.size = R at hR hB0 ⊢
  have hRr := Lib.hid hRR
  clear hRR
  have hH1 := Lib.hid (show Lst (w.alloc (.cells #[.slice none 0 0, .slice none 0 0, .slice none 0 0] 157)) R A m os from by have := hH.out; rw [hRr.out] at this; exact this.below hB0)
  have hRlt : R < (w.alloc (.cells #[.slice none 0 0, .slice none 0 0, .slice none 0 0] 157)).heap.size := by simp; have := hRr.out; omega
  generalize w.alloc (.cells #[.slice none 0 0, .slice none 0 0, .slice none 0 0] 157) = W at hR hB0 hH1 hRlt ⊢
  have hLw := Lib.hid (show ∀ wx : World, Below R W wx → R ≤ wx.heap.size → Lst wx wx.heap.size A m os from fun wx hb hs => (hH1.out.below hb).more hs)
  have hBw1 : Below R W W.drew := (Below.refl R W).drew
  have hBw2 : Below R W ((W.alloc (.cells cs 153)).drew) := ((Below.refl R W).alloc (Nat.le_of_lt hRlt) _).drew
  have hRl1 : R ≤ W.drew.heap.size := Nat.le_of_lt hRlt
  have hRl2 : R ≤ ((W.alloc (.cells cs 153)).drew).heap.size := by simp; omega
  have hRh1 : Has W.drew R 157 #[.slice none 0 0, .slice none 0 0, .slice none 0 0] := hR.out
  have hRh2 : Has ((W.alloc (.cells cs 153)).drew) R 157 #[.slice none 0 0, .slice none 0 0, .slice none 0 0] := hR.out.alloc _
  have hX1 := Lib.hid (And.intro hBw1 (And.intro hRl1 hRh1))
  have hX2 := Lib.hid (And.intro hBw2 (And.intro hRl2 hRh2))
  clear hBw1 hBw2 hRl1 hRl2 hRh1 hRh2
  go_region_law (first | (go_simp; go_at_call 170; refine (cL.out _ (by first | exact hLw.out _ hX1.out.1 hX1.out.2.1 | exact hLw.out _ hX2.out.1 hX2.out.2.1)).mono ?_; rintro e w3 ⟨rfl, ho3, hb3⟩; have hR3 := Has.kept (by first | exact hX1.out.2.2 | exact hX2.out.2.2) hb3; have hcR := hR3.cell; have hfR := hR3.frozen; have hz3 := hb3.size; have hR3l : R < w3.heap.size := hR3.lt; have hR3n : w3.heap.size ≠ R := (by omega); have hR3m : R ≠ w3.heap.size := (by omega)))
  · have hRp := ((hR3.put 0 (.slice A m c)).put 1 (.slice (some ⟨W.heap.size, 0, none⟩) (m + 1) (m + 1))).put 2 (.slice (some ⟨w3.heap.size, 0, none⟩) (m + 1) (m + 1))
    have hop : ((((w3.setCell ⟨R, 0, none⟩ (.slice A m c)).setCell ⟨R, 1, none⟩ (.slice (some ⟨W.heap.size, 0, none⟩) (m + 1) (m + 1))).setCell ⟨R, 2, none⟩ (.slice (some ⟨w3.heap.size, 0, none⟩) (m + 1) (m + 1)))).ownsRow R 3 1 (.slice (some ⟨W.heap.size, 0, none⟩) (m + 1) (m + 1)) (m + 1) (ints (lives asked os)) := owns_but (owns_le ho3 (show R ≤ W.heap.size by omega)) (((KeptBut.refl w3 (fun i => i = R)).put (p := ⟨R, 0, none⟩) (fun _ => rfl) (.slice A m c)).put (p := ⟨R, 1, none⟩) (fun _ => rfl) (.slice (some ⟨W.heap.size, 0, none⟩) (m + 1) (m + 1)) |>.put (p := ⟨R, 2, none⟩) (fun _ => rfl) (.slice (some ⟨w3.heap.size, 0, none⟩) (m + 1) (m + 1))) (fun k hk e => by
      have : W.heap.size = k := by simpa [Value.ownBlock] using hk
      omega)
    have hBp : Below R w ((((w3.setCell ⟨R, 0, none⟩ (.slice A m c)).setCell ⟨R, 1, none⟩ (.slice (some ⟨W.heap.size, 0, none⟩) (m + 1) (m + 1))).setCell ⟨R, 2, none⟩ (.slice (some ⟨w3.heap.size, 0, none⟩) (m + 1) (m + 1)))) := by
      iterate 3 (refine Below.setCell (p := ⟨R, _, none⟩) ?_ (Nat.le_refl R) _)
      exact (hB0.trans ((((Below.refl W.heap.size W).drew).trans hb3).mono (Nat.le_of_lt hRlt)))
    have hsz : ((((w3.setCell ⟨R, 0, none⟩ (.slice A m c)).setCell ⟨R, 1, none⟩ (.slice (some ⟨W.heap.size, 0, none⟩) (m + 1) (m + 1))).setCell ⟨R, 2, none⟩ (.slice (some ⟨w3.heap.size, 0, none⟩) (m + 1) (m + 1)))).heap.size = w3.heap.size := by simp
    have hFp := Has.new ((((w3.setCell ⟨R, 0, none⟩ (.slice A m c)).setCell ⟨R, 1, none⟩ (.slice (some ⟨W.heap.size, 0, none⟩) (m + 1) (m + 1))).setCell ⟨R, 2, none⟩ (.slice (some ⟨w3.heap.size, 0, none⟩) (m + 1) (m + 1)))) 153 cs
    rw [hsz] at hFp
    have hRf := Lib.hid (hRp.alloc (.cells cs 153))
    have hof := Lib.hid (World.ownsRow.alloc hop (.cells cs 153))
    have hBf := Lib.hid (hBp.alloc (show R ≤ ((((w3.setCell ⟨R, 0, none⟩ (.slice A m c)).setCell ⟨R, 1, none⟩ (.slice (some ⟨W.heap.size, 0, none⟩) (m + 1) (m + 1))).setCell ⟨R, 2, none⟩ (.slice (some ⟨w3.heap.size, 0, none⟩) (m + 1) (m + 1)))).heap.size by rw [hsz]; omega) (.cells cs 153))
    have hFf := Lib.hid hFp
    clear hRp hop hBp hsz hFp
    clear hb3 ho3 hcR hfR
    go_wp2
    generalize ((((w3.setCell ⟨R, 0, none⟩ (.slice A m c)).setCell ⟨R, 1, none⟩ (.slice (some ⟨W.heap.size, 0, none⟩) (m + 1) (m + 1))).setCell ⟨R, 2, none⟩ (.slice (some ⟨w3.heap.size, 0, none⟩) (m + 1) (m + 1)))).alloc (.cells cs 153) = Wf at hRf hof hBf hFf ⊢
    have cf := hRf.out.cell
    have ff := hRf.out.frozen
    simp at cf
    refine bodyPost_ret (v := .agg #[.slice A m c, .slice (some ⟨W.heap.size, 0, none⟩) (m + 1) (m + 1), .slice (some ⟨w3.heap.size, 0, none⟩) (m + 1) (m + 1)]) (by simp [results, Try.results139, go_sem, cf]) rfl ?_
    unfold Swd
    rw [hRr.out]
    exact ⟨_, _, cs, rfl, hof.out, hFf.out, hFr.out, by omega, hBf.out⟩
  · have ho3b : w3.ownsRow (W.heap.size + 1) 3 1 (.slice (some ⟨W.heap.size + 1, 0, none⟩) (m + 1) (m + 1)) (m + 1) (ints (lives asked os)) := by simpa using ho3
    have hRp := ((hR3.put 0 (.slice A m c)).put 1 (.slice (some ⟨W.heap.size + 1, 0, none⟩) (m + 1) (m + 1))).put 2 (.slice (some ⟨W.heap.size, 0, none⟩) (m + 1) (m + 1))
    have hop : ((((w3.setCell ⟨R, 0, none⟩ (.slice A m c)).setCell ⟨R, 1, none⟩ (.slice (some ⟨W.heap.size + 1, 0, none⟩) (m + 1) (m + 1))).setCell ⟨R, 2, none⟩ (.slice (some ⟨W.heap.size, 0, none⟩) (m + 1) (m + 1)))).ownsRow R 3 1 (.slice (some ⟨W.heap.size + 1, 0, none⟩) (m + 1) (m + 1)) (m + 1) (ints (lives asked os)) := owns_but (owns_le ho3b (show R ≤ W.heap.size + 1 by omega)) (((KeptBut.refl w3 (fun i => i = R)).put (p := ⟨R, 0, none⟩) (fun _ => rfl) (.slice A m c)).put (p := ⟨R, 1, none⟩) (fun _ => rfl) (.slice (some ⟨W.heap.size + 1, 0, none⟩) (m + 1) (m + 1)) |>.put (p := ⟨R, 2, none⟩) (fun _ => rfl) (.slice (some ⟨W.heap.size, 0, none⟩) (m + 1) (m + 1))) (fun k hk e => by
      have : W.heap.size + 1 = k := by simpa [Value.ownBlock] using hk
      omega)
    have hBp : Below R w ((((w3.setCell ⟨R, 0, none⟩ (.slice A m c)).setCell ⟨R, 1, none⟩ (.slice (some ⟨W.heap.size + 1, 0, none⟩) (m + 1) (m + 1))).setCell ⟨R, 2, none⟩ (.slice (some ⟨W.heap.size, 0, none⟩) (m + 1) (m + 1)))) := by
      iterate 3 (refine Below.setCell (p := ⟨R, _, none⟩) ?_ (Nat.le_refl R) _)
      exact (hB0.trans ((((Below.refl W.heap.size W).alloc (Nat.le_refl _) _).drew.trans (hb3.mono (by simp))).mono (Nat.le_of_lt hRlt)))
    have hRf := Lib.hid hRp
    have hof := Lib.hid hop
    have hBf := Lib.hid hBp
    have hF3 : Has w3 W.heap.size 153 cs := Has.kept (w := (W.alloc (.cells cs 153)).drew) (Has.new W 153 cs) hb3
    have hFf := Lib.hid (((hF3.far (p := ⟨R, 0, none⟩) (by show W.heap.size ≠ R; omega) (.slice A m c)).far (p := ⟨R, 1, none⟩) (by show W.heap.size ≠ R; omega) (.slice (some ⟨W.heap.size + 1, 0, none⟩) (m + 1) (m + 1))).far (p := ⟨R, 2, none⟩) (by show W.heap.size ≠ R; omega) (.slice (some ⟨W.heap.size, 0, none⟩) (m + 1) (m + 1)))
    clear hRp hop hBp hF3
    clear hb3 ho3 ho3b hcR hfR
    go_wp2
    generalize (((w3.setCell ⟨R, 0, none⟩ (.slice A m c)).setCell ⟨R, 1, none⟩ (.slice (some ⟨W.heap.size + 1, 0, none⟩) (m + 1) (m + 1))).setCell ⟨R, 2, none⟩ (.slice (some ⟨W.heap.size, 0, none⟩) (m + 1) (m + 1))) = Wf at hRf hof hBf hFf ⊢
    have cf := hRf.out.cell
    have ff := hRf.out.frozen
    simp at cf
    refine bodyPost_ret (v := .agg #[.slice A m c, .slice (some ⟨W.heap.size + 1, 0, none⟩) (m + 1) (m + 1), .slice (some ⟨W.heap.size, 0, none⟩) (m + 1) (m + 1)]) (by simp [results, Try.results139, go_sem, cf]) rfl ?_
    unfold Swd
    rw [hRr.out]
    exact ⟨_, _, cs, rfl, hof.out, hFf.out, hFr.out, by omega, hBf.out⟩
end Go.Proofs.Ytbndonfpdioibaa

namespace Go.Proofs.Ytbndonfpdioibaa
set_option maxRecDepth 100000
set_option linter.unusedVariables false
open Go.RowKit

def ind (q : Int) (x : Int) : Int := if x = q then 1 else 0
/-- The weights of all states by runs. -/
def wl (rs : Fr) : List Int := (List.range 81).map fun (q : Nat) => sumV (ind q) rs
theorem wl_length (rs : Fr) : (wl rs).length = 81 := by simp [wl]
theorem wl_at (rs : Fr) {q : Nat} (h : q < 81) : (wl rs)[q]? = some (sumV (ind q) rs) := by
  unfold wl
  rw [List.getElem?_map, List.getElem?_range h]; rfl
theorem sumV_take {v : Int → Int} {rs : Fr} {k : Nat} {st wt : Int} (h : rs[k]? = some (st, wt)) : sumV v (rs.take (k + 1)) = sumV v (rs.take k) + wt * v st := by
  rw [List.take_succ_eq_append_getElem (List.getElem?_eq_some_iff.1 h).1, (List.getElem?_eq_some_iff.1 h).2, sumV_append]
  simp [sumV]
theorem sumV_le {v v' : Int → Int} : ∀ {rs : Fr}, (∀ p ∈ rs, 0 ≤ p.2) → (∀ x, v x ≤ v' x) → sumV v rs ≤ sumV v' rs
  | [], _, _ => by simp [sumV]
  | (s, u) :: r, h, hv => by
    rw [sumV, sumV]
    have h1 := sumV_le (fun p hp => h p (List.mem_cons_of_mem _ hp)) hv (rs := r)
    have h2 : u * v s ≤ u * v' s := Int.mul_le_mul_of_nonneg_left (hv s) (h (s, u) List.mem_cons_self)
    omega
theorem sumV_part {rs : Fr} {k : Nat} (h : ∀ p ∈ rs, 0 ≤ p.2) : sumV (fun _ => 1) (rs.take k) ≤ sumV (fun _ => 1) rs := by
  have e := sumV_append (fun _ => 1) (rs.take k) (rs.drop k)
  rw [List.take_append_drop] at e
  have := sumV_nonneg (v := fun _ => 1) (rs := rs.drop k) (fun p hp => ⟨h p (List.mem_of_mem_drop hp), by omega⟩)
  omega
/-- The sums of the first k runs lie in a row of cells. -/
def WFill (cs : Array Value) (rs : Fr) : Prop := cs.size = 81 ∧ ∀ q : Nat, q < 81 → cs[q]? = some (.int .i64 (sumV (ind q) rs))
theorem WFill.step {cs : Array Value} {rs : Fr} {k z : Nat} {wt : Int} (h : WFill cs (rs.take k)) (hr : rs[k]? = some ((z : Int), wt)) (hz : z < 81) : WFill (cs.setIfInBounds z (.int .i64 (sumV (ind z) (rs.take k) + wt))) (rs.take (k + 1)) := by
  refine ⟨by simpa using h.1, fun q hq => ?_⟩
  rw [sumV_take hr]
  by_cases hqz : q = z
  · subst hqz
    rw [Array.getElem?_setIfInBounds, if_pos rfl, if_pos (by rw [h.1]; exact hq)]
    simp [ind]
  · rw [Array.getElem?_setIfInBounds, if_neg (by omega), h.2 q hq]
    have : ind q (z : Int) = 0 := if_neg (by omega)
    rw [this]; simp
theorem WFill.done {cs : Array Value} {rs : Fr} (h : WFill cs rs) : cs.toList = ints (wl rs) := by
  apply List.ext_getElem?
  intro x
  rw [Array.getElem?_toList]
  by_cases hx : x < 81
  · rw [h.2 x hx, ints_get (wl_at rs hx)]
  · rw [Array.getElem?_eq_none (by rw [h.1]; omega), List.getElem?_eq_none (by rw [ints_length, wl_length]; omega)]

set_option maxHeartbeats 2000000 in
theorem weightsIn_any (base m n c : Nat) (A : Option Addr) (rs : Fr) (w : World) (h : w.ownsRow base 101 3 (.slice A n c) n (rnflat (rns m rs))) (hn : rs.length = n) (hF : FrOk rs) (hsum : sumV (fun _ => 1) rs ≤ 1000000000000000000) :
    Calls Try.prog 141 #[.slice A n c] w fun e w' => e = .returned (.slice (some ⟨w.heap.size, 0, none⟩) 81 81) ∧ IOwn w' w.heap.size (.slice (some ⟨w.heap.size, 0, none⟩) 81 81) (wl rs) ∧ Below w.heap.size w w' := by
  have hH := Lib.hid h
  have hN := Lib.hid hn
  have hFo := Lib.hid hF
  have hFl := hF.len
  have hpos := Lib.hid (fun p (hp : p ∈ rs) => Int.le_of_lt (hF.1 p hp).2)
  have hbd := Lib.hid (show ∀ (k : Nat) (q : Int), 0 ≤ sumV (ind q) (rs.take k) ∧ sumV (ind q) (rs.take k) ≤ 1000000000000000000 from fun k q => by
    have hp : ∀ p ∈ rs.take k, 0 ≤ p.2 := fun p hp => hpos.out p (List.mem_of_mem_take hp)
    have h1 := sumV_le (v := ind q) (v' := fun _ => 1) hp (fun x => by unfold ind; split <;> omega)
    have h2 := sumV_part (k := k) hpos.out
    have h3 := sumV_nonneg (v := ind q) (rs := rs.take k) (fun p hp' => ⟨hp p hp', by unfold ind; split <;> omega⟩)
    omega)
  have hwt := Lib.hid (show ∀ p ∈ rs, p.2 ≤ 1000000000000000000 from fun p hp => by
    have := sumV_ge (v := fun _ => 1) (rs := rs) (fun p hp => ⟨hpos.out p hp, by omega⟩) p hp
    omega)
  have hsl : ∀ k, k < n → ∃ st wt, rs[k]? = some (st, wt) := fun k hk => by
    obtain ⟨p, hp⟩ : ∃ p, rs[k]? = some p := ⟨_, List.getElem?_eq_getElem (by omega)⟩
    exact ⟨p.1, p.2, hp⟩
  have hSl := Lib.hid hsl
  rw [hn] at hFl
  clear h hn hF hsum hsl
  obtain ⟨i0, hi0, hz0, hz1', hz2'⟩ := info_parts info_int
  have hmk : ∀ wx : World, (Instr.makeSlice 24 (.int .i64 81) (.int .i64 81)).run Try.prog wx = .ok (.slice (some ⟨wx.heap.size, 0, none⟩) 81 81) (wx.alloc (.cells (madeCells (Value.int .i64 0).cells (81 * 1)) 3)) := by
    intro wx
    have hr := run_make (P := Try.prog) wx 24 3 i0 _ Try.underlying24 hi0 hz0 .i64 .i64 81 81 (by omega) (by omega) (by rw [hz2']; omega) (by omega)
    rw [hz1'] at hr
    exact hr
  have hHas := Lib.hid (Has.new w 3 (madeCells #[.int .i64 0] 81))
  have hfill := Lib.hid (show WFill (madeCells #[.int .i64 0] 81) (rs.take 0) from ⟨size_madeCells _ _, fun q hq => by
    rw [made_at hq (by decide)]
    simp [sumV, Nat.mod_one]⟩)
  have hB0 : Below w.heap.size w (w.alloc (.cells (madeCells #[.int .i64 0] 81) 3)) := (Below.refl _ _).alloc (Nat.le_refl _) _
  have hn9 : n ≤ 9223372036854775807 := by omega
  go_enter Try.func141, Try.ntmps141
  go_wp2_with fail
  clear hmk
  generalize hGG : w.heap.size = G at hHas hB0 ⊢
  have hGg := Lib.hid hGG
  have hH2 := Lib.hid (show ∀ wx : World, Below G w wx → wx.ownsRow base 101 3 (.slice A n c) n (rnflat (rns m rs)) from fun wx hb => by
    rw [← hGG] at hb
    exact owns_but hH.out (KeptBut.of_below hb (fun _ => False)) (fun _ _ h => h))
  clear hGG hH
  generalize w.alloc (.cells (madeCells #[.int .i64 0] 81) 3) = W0 at hHas hB0 ⊢
  go_loopg [9] n (fun gn v wr => ∃ (k : Nat) (cs : Array Value), k ≤ n ∧ gn = n - k ∧ v = .int .i64 k ∧ Has wr G 3 cs ∧ WFill cs (rs.take k) ∧ Below G w wr)
  case atStart => exact ⟨0, _, Nat.zero_le _, rfl, rfl, hHas.out, hfill.out, hB0⟩
  case round =>
    obtain ⟨k, cs, hk, hgn, rfl, hhas, hfl, hb⟩ := hrel
    have hgk : gk = n - k := hgn
    clear hgn
    by_cases hlt : k < n
    · obtain ⟨st, wt, hp⟩ := hSl.out k hlt
      have hpk := (hFo.out.1 _ (List.mem_of_getElem? hp))
      have hst : 0 ≤ st ∧ st ≤ 80 := hpk.1
      have hw0 : 0 < wt := hpk.2
      have hw1 : wt ≤ 1000000000000000000 := hwt.out _ (List.mem_of_getElem? hp)
      obtain ⟨z, rfl⟩ : ∃ z : Nat, st = (z : Int) := ⟨st.toNat, by omega⟩
      have hz81 : z < 81 := by omega
      obtain ⟨b, curb, rfl, _, hhb, _, _, _, hbc⟩ := owns_open (hH2.out wr hb) (by omega)
      have hrp := rns_at (i := m) hp
      have e0 : wr.cell? ⟨b, k * 3, none⟩ = some (.int .i64 m) := (hbc _ (by omega)).trans (rnflat_at (q := 0) hrp rfl)
      have e1 : wr.cell? ⟨b, k * 3 + 1, none⟩ = some (.int .i64 z) := (hbc _ (by omega)).trans (rnflat_at (q := 1) hrp rfl)
      have e2 : wr.cell? ⟨b, k * 3 + 2, none⟩ = some (.int .i64 wt) := (hbc _ (by omega)).trans (rnflat_at (q := 2) hrp rfl)
      have hGw := hhas.lt
      have hX := Lib.hid (Has.new wr 101 #[.int .i64 m, .int .i64 z, .int .i64 wt])
      have hA := Lib.hid (hhas.alloc (.cells #[.int .i64 m, .int .i64 z, .int .i64 wt] 101))
      have hB5 := Lib.hid (hb.alloc (Nat.le_of_lt hGw) (.cells #[.int .i64 m, .int .i64 z, .int .i64 wt] 101))
      have hbz := hbd.out k z
      have hfl' := Lib.hid hfl
      have hP := Lib.hid hp
      have hk0 : (0 : Int) ≤ (k : Int) := by omega
      have hk1 : (k : Int) < (n : Int) := by omega
      have hz0 : (0 : Int) ≤ (z : Int) := by omega
      have hz1 : (z : Int) < 81 := by omega
      clear hhas hfl hb hhb hbc hrp hpk hp
      go_wp2_with fail
      clear e0 e1 e2
      generalize wr.heap.size = Gb at hX
      generalize wr.alloc (.cells #[.int .i64 m, .int .i64 z, .int .i64 wt] 101) = W at hX hA hB5 ⊢
      have hcx := hX.out.cell
      have cz : W.cell? ⟨G, z, none⟩ = some (.int .i64 (sumV (ind z) (rs.take k))) := (hA.out.cell z).trans (hfl'.out.2 z hz81)
      have fz := hA.out.frozen z
      have hsw : IntKind.i64.wrap (sumV (ind z) (rs.take k) + wt) = sumV (ind z) (rs.take k) + wt := IntWalk.i64_in _ (by omega)
      have hNs := Lib.hid (hfl'.out.step hP.out hz81)
      have hPt := Lib.hid ((hA.out.put z (.int .i64 (sumV (ind z) (rs.take k) + wt))))
      have hBt := Lib.hid ((hB5.out.setCell (p := ⟨G, z, none⟩) (Nat.le_refl G) (.int .i64 (sumV (ind z) (rs.take k) + wt))).drew)
      generalize sumV (ind z) (rs.take k) = sk at hbz cz hsw hNs hPt hBt
      go_still_tail 9, (by kernel_rfl)
      change wpList _ _ _ _ _ W.drew
      go_wp2_with fail
      go_roundg (n - (k + 1))
      case measure => omega
      case rel => exact ⟨k + 1, _, by omega, rfl, by go_num, hPt.out, hNs.out, hBt.out⟩
    · obtain rfl : k = n := by omega
      have hF := Lib.hid (show IOwn wr G (.slice (some ⟨G, 0, none⟩) 81 81) (wl rs) from by
        rw [List.take_of_length_le (by rw [hN.out]; exact Nat.le_refl _)] at hfl
        exact IOwn.of_has hhas hfl.done (wl_length rs) (Nat.le_refl _) (by decide))
      have hb' := Lib.hid hb
      clear hhas hfl hb
      go_wp2_with fail
      go_ret
      obtain rfl := hGg.out
      exact ⟨rfl, hF.out, hb'.out⟩
end Go.Proofs.Ytbndonfpdioibaa

namespace Go.Proofs.Ytbndonfpdioibaa
set_option maxRecDepth 100000
set_option linter.unusedVariables false
open Go.RowKit

/-- The weights of all states in the end, from a state on. -/
def wts (os : List St) (st : Int) : List Int := (List.range 81).map fun (q : Nat) => valAt (ind q) os 0 st
theorem wts_length (os : List St) (st : Int) : (wts os st).length = 81 := by simp [wts]
def weightsFrom (ps : List St) (st : Int) : List Int := match unrolled ps with
  | none => []
  | some os => if inB st 0 80 = true then wts os st else []
theorem weightsFrom_len (ps : List St) (st : Int) : (weightsFrom ps st).length ≤ 81 := by
  unfold weightsFrom
  cases unrolled ps with
  | none => simp
  | some os =>
    dsimp only
    split
    · rw [wts_length]; exact Nat.le_refl _
    · simp

theorem tailV_none {V : Nat → Int → Int} {F : Nat → Fr} : ∀ (n i : Nat), (∀ t, i ≤ t → F t = []) → tailV V F i n = 0
  | 0, i, _ => rfl
  | n + 1, i, h => by rw [tailV, h i (Nat.le_refl _), tailV_none n (i + 1) (fun t ht => h t (by omega))]; rfl
/-- All runs are at the first statement. -/
def P0 (F : Nat → Fr) : Prop := (∀ t, FrOk (F t)) ∧ ∀ t, 0 < t → F t = []
theorem P0.start : P0 (fun _ => []) := ⟨fun _ => FrOk.nil, fun _ _ => rfl⟩
theorem P0.put {m : Nat} {lv : List Int} {F : Nat → Fr} {st wt : Int} (h : P0 F) (hs : 0 ≤ st ∧ st ≤ 80) (hw : 0 ≤ wt) : P0 (toF m lv F ⟨0, st, wt⟩) := by
  refine ⟨toF_ok h.1 hs hw, fun t ht => ?_⟩
  unfold toF
  split
  · exact h.2 t ht
  · rw [upd_ne (by show t ≠ min 0 m; omega)]
    exact h.2 t ht
theorem P0.sum {m : Nat} {lv : List Int} {F : Nat → Fr} {st wt : Int} (v : Int → Int) : sumV v (toF m lv F ⟨0, st, wt⟩ 0) = sumV v (F 0) + wt * v (vo (lv.getD 0 0) st) := by
  unfold toF
  split
  · rename_i h
    have h' : wt = 0 := h
    rw [h', Int.zero_mul, Int.add_zero]
  · have e : min (Rn.mk 0 st wt).pos m = 0 := Nat.zero_min m
    rw [e, upd_at, sumV_add]
theorem P0.gst {asked : Int} {os : List St} {m : Nat} {F : Nat → Fr} {T : (Int → Int) → Int} (h : P0 F) (h2 : sumV (V2 m 0) (F 0) ≤ 1000000000000000000) (h3 : ∀ q, Resp asked q → sumV (valAt q os 0) (F 0) = T q) (hN : Nrm asked os F) : Gst asked os m T F 0 (F 0) := by
  have ht : ∀ V : Nat → Int → Int, tailV V F (0 + 1) (m - 0) = 0 := fun V => tailV_none _ _ (fun t ht => h.2 t (by omega))
  have hp : ∀ p ∈ F 0, p.2 ≤ 1000000000000000000 := fun p hp => by
    have h5 := sumV_ge (v := V2 m 0) (rs := F 0) (fun p hp => ⟨by have := ((h.1 0).1 p hp).2; omega, by have := V2_ge m 0 p.1; omega⟩) p hp
    have h6 : p.2 * 1 ≤ p.2 * V2 m 0 p.1 := Int.mul_le_mul_of_nonneg_left (V2_ge m 0 p.1) (by have := ((h.1 0).1 p hp).2; omega)
    omega
  refine ⟨h.1, fun t p hp' => ?_, fun t ht' => h.2 t (by omega), by rw [ht]; omega, fun q hq => by rw [ht, Int.add_zero]; exact h3 q hq, fun p hp => hp, hN⟩
  by_cases h0 : t = 0
  · subst h0
    exact hp p hp'
  · rw [h.2 t (by omega)] at hp'
    simp at hp'
theorem V2_top {m : Nat} (h : m ≤ 12) (st : Int) : V2 m 0 st ≤ 150094635296999121 := by
  have h1 := V2_mono (m := 12) (i := 0) (j := 12 - m) (by omega) 0 0
  unfold V2 at h1 ⊢
  rw [show 12 - (12 - m) = m by omega] at h1
  have e : (27 : Int) ^ (12 - 0) = 150094635296999121 := by decide
  rw [e] at h1
  exact h1
theorem resp_ind (q : Int) : Resp 15 (ind q) := fun st st' hs hs' hag => by rw [agree_all hs hs' hag]
theorem LvOk.of {asked : Int} {os : List St} {m : Nat} (hm : os.length = m) (ha : 0 ≤ asked ∧ asked ≤ 15) : LvOk m (lives asked os) := ⟨by rw [lives_length, hm], lives_bd ha os⟩
theorem gst_one {asked : Int} {os : List St} {m : Nat} {st : Int} (hm : os.length = m) (h12 : m ≤ 12) (hok : ∀ s ∈ os, s.ok = true ∧ s.notLoop = true) (hs : 0 ≤ st ∧ st ≤ 80) :
    Gst asked os m (fun q => valAt q os 0 st) (toF m (lives asked os) (fun _ => []) ⟨0, st, 1⟩) 0 (toF m (lives asked os) (fun _ => []) ⟨0, st, 1⟩ 0) := by
  refine (P0.start.put hs (by decide)).gst ?_ (fun q hq => ?_) ((Nrm.nil _ _).put (r := ⟨0, st, 1⟩) hs)
  · rw [P0.sum]
    have := V2_top h12 (vo ((lives asked os).getD 0 0) st)
    simp only [sumV]
    omega
  · rw [P0.sum, valAt_vo hq hok (Nat.zero_le _) hs]
    simp [sumV]

/-- A sweep as it is made, in a block of its own. -/
theorem Swp.start {w : World} {base gl gf m : Nat} {A : Option Addr} {c : Nat} {os : List St} {lv : List Int} {cs : Array Value} (ho : w.ownsRow base 78 7 (.slice A m c) m (flat os)) (hl : w.ownsRow base 3 1 (.slice (some ⟨gl, 0, none⟩) (m + 1) (m + 1)) (m + 1) (ints lv)) (hf : Has w gf 153 cs) (ha : FrA cs (fun _ => .slice none 0 0) (fun _ => []) m) (hb : base ≤ w.heap.size) (hg : base ≤ gf) :
    Swp (w.alloc (.cells #[.slice A m c, .slice (some ⟨gl, 0, none⟩) (m + 1) (m + 1), .slice (some ⟨gf, 0, none⟩) (m + 1) (m + 1)] 157)) base w.heap.size gl gf m A c os lv (fun _ => []) (fun _ => .slice none 0 0) :=
  ⟨Has.new w _ _, World.ownsRow.alloc ho _, World.ownsRow.alloc hl _, ⟨⟨cs, hf.alloc _, ha⟩, fun i _ => World.ownsRow_nil _ _ _ _, fun i j k _ _ _ h => by cases h⟩, hb, hg⟩

set_option maxHeartbeats 2000000 in
theorem WeightsFrom_any (A : Option Addr) (n c : Nat) (ps : List St) (st : Int) (w : World) (h : Lst w w.heap.size A n ps) (hn : n ≤ c) (hc : c ≤ maxLen) :
    Calls Try.prog 84 #[.slice A n c, .int .i64 st] w (Wtsd w (weightsFrom ps st)) := by
  have hC := Lib.hid (Unrolled_any A n c ps w h hn hc)
  have cW := Lib.hid (fun wx => within_any st 0 80 wx)
  clear h hc
  cases hu : unrolled ps with
  | none =>
    have hU := Lib.hid hu
    have hR := Lib.hid (show weightsFrom ps st = [] by unfold weightsFrom; rw [hu])
    clear hu
    go_enter Try.func84, Try.ntmps84
    go_wp2_with fail
    refine (hC.out).mono ?_
    rw [hU.out]
    rintro e w1 ⟨v, rfl, hown, hb⟩
    clear hown
    go_wp2_with fail
    go_ret
    exact ⟨_, rfl, by rw [hR.out]; exact IOwn.nil _ _, hb⟩
  | some os =>
    obtain ⟨_, hlen, _, hNL, hOK⟩ := unrolled_parts hu
    have hU := Lib.hid hu
    cases hin : inB st 0 80
    · have hR := Lib.hid (show weightsFrom ps st = [] by unfold weightsFrom; rw [hu]; exact if_neg (by simp [hin]))
      rw [hin] at cW
      clear hu hNL hOK hin
      go_enter Try.func84, Try.ntmps84
      go_wp2_with fail
      refine (hC.out).mono ?_
      rw [hU.out]
      rintro e w1 ⟨v, rfl, hown, hb⟩
      clear hown
      go_wp2_with fail
      refine (cW.out _).mono ?_
      rintro e w' ⟨rfl, rfl⟩
      go_wp2_with fail
      go_ret
      exact ⟨_, rfl, by rw [hR.out]; exact IOwn.nil _ _, hb⟩
    · have hR := Lib.hid (show weightsFrom ps st = wts os st by unfold weightsFrom; rw [hu]; exact if_pos hin)
      have hs := inB_iff.1 hin
      have hOkN := Lib.hid (show ∀ s ∈ os, s.ok = true ∧ s.notLoop = true from fun s hs => ⟨List.all_eq_true.1 hOK s hs, hNL s hs⟩)
      have hOk := Lib.hid hOK
      rw [hin] at cW
      clear hu hNL hOK hin
      go_enter Try.func84, Try.ntmps84
      go_wp2_with fail
      refine (hC.out).mono ?_
      rw [hU.out]
      rintro e w1 ⟨v, rfl, hown', hb⟩
      have hown : Own w1 w.heap.size v os := hown'
      obtain ⟨A3, c3, hv, hlc, hcm⟩ := hown.form
      subst hv
      generalize hm : os.length = m at hlen hlc ⊢
      have hM := Lib.hid hm
      have hO := Lib.hid (show w1.ownsRow w.heap.size 78 7 (.slice A3 m c3) m (flat os) from by
        have := hown
        unfold Own at this
        rwa [hm] at this)
      have hB1 := Lib.hid hb
      have hz1 := hb.size
      clear hown hown' hm hb
      go_wp2_with fail
      refine (cW.out _).mono ?_
      rintro e w' ⟨rfl, rfl⟩
      go_wp2_with fail
      refine (sweepOf_any A3 m c3 os 15 _ (ownS_lst hO.out) hlen hOk.out (by decide)).mono ?_
      rintro e w2 ⟨gl, gf, cs, rfl, hol, hfr, hfa, hgf, hb2⟩
      have hz2 := hb2.size
      have hS := Swp.start (owns_but hO.out (KeptBut.of_below hb2 (fun _ => False)) (fun _ _ h => h)) (owns_le hol hz1) hfr hfa (by omega) (show w.heap.size ≤ gf by omega)
      have hB2 := Lib.hid ((hB1.out.trans (hb2.mono hz1)).alloc (show w.heap.size ≤ w2.heap.size by omega) (.cells #[.slice A3 m c3, .slice (some ⟨gl, 0, none⟩) (m + 1) (m + 1), .slice (some ⟨gf, 0, none⟩) (m + 1) (m + 1)] 157))
      have hlv := Lib.hid (LvOk.of (asked := 15) hM.out (by decide))
      have cP := Lib.hid (put_any _ w.heap.size w2.heap.size gl gf m A3 c3 os (lives 15 os) (fun _ => []) (fun _ => .slice none 0 0) ⟨0, st, 1⟩ hS hlen hlv.out (fun _ => FrOk.nil) hs (by simp) (fun i _ p hp => by simp at hp) (by simp))
      have hS' := Lib.hid hS
      clear hS hol hfr hfa hb2
      go_wp2_with fail
      generalize w2.alloc (.cells #[.slice A3 m c3, .slice (some ⟨gl, 0, none⟩) (m + 1) (m + 1), .slice (some ⟨gf, 0, none⟩) (m + 1) (m + 1)] 157) = W3 at cP hS' hB2 ⊢
      generalize w2.heap.size = g at cP hS' ⊢
      refine (cP.out).mono ?_
      rintro e w4 ⟨rfl, vs4, hS4, hK4, _⟩
      have hB4 := Lib.hid (hB2.out.trans (hK4.1.below (B := w.heap.size) (fun i hi e => by have := (hS'.out.gt e).1; omega) hB2.out.size))
      have cG := Lib.hid (goOn_any w4 15 w.heap.size g gl gf m A3 c3 os _ vs4 _ hS4 hlen hM.out hOkN.out hlv.out (gst_one hM.out hlen hOkN.out hs))
      have hS4' := Lib.hid hS4
      clear hS4 hK4 hS' cP
      go_wp2_with fail
      refine (cG.out).mono ?_
      rintro e w5 ⟨F5, vs5, rfl, hS5, hK5, hF5, hsum5, hT5, hN5⟩
      have hB5 := Lib.hid (hB4.out.trans (hK5.1.below (B := w.heap.size) (fun i hi e => by have := (hS4'.out.gt e).1; omega) hB4.out.size))
      have hrow := hS5.2.2.2.1.2.1 m (Nat.le_refl _)
      obtain ⟨A6, c6, hv6, _, _⟩ := owns_form hrow
      rw [hv6] at hrow ⊢
      have cI := Lib.hid (weightsIn_any w.heap.size m (F5 m).length c6 A6 (F5 m) w5 hrow rfl hF5 hsum5)
      have hw := Lib.hid (show wl (F5 m) = wts os st from by
        unfold wl wts
        refine List.map_congr_left fun q _ => ?_
        exact hT5 (ind q) (resp_ind q))
      clear hS5 hK5 hF5 hsum5 hN5 hT5 hrow hv6 cG hS4'
      go_wp2_with fail
      refine (cI.out).mono ?_
      rintro e w6 ⟨rfl, ho6, hb6⟩
      have hF := Lib.hid (show Wtsd w (weightsFrom ps st) (.returned (.slice (some ⟨w5.heap.size, 0, none⟩) 81 81)) w6 from ⟨_, rfl, by rw [hR.out, ← hw.out]; exact owns_le ho6 hB5.out.size, hB5.out.trans (hb6.mono hB5.out.size)⟩)
      clear ho6 hb6
      go_wp2_with fail
      go_ret
      exact hF.out

theorem WeightsOf_any (A : Option Addr) (n c : Nat) (ps : List St) (w : World) (h : Lst w w.heap.size A n ps) (hn : n ≤ c) (hc : c ≤ maxLen) :
    Calls Try.prog 35 #[.slice A n c] w (Wtsd w (weightsFrom ps 0)) := by
  have hC := Lib.hid (WeightsFrom_any A n c ps 0 w h hn hc)
  clear h hc
  go_enter Try.func35, Try.ntmps35
  go_wp2_with fail
  refine (hC.out).mono ?_
  rintro e w1 ⟨v, rfl, hown, hb⟩
  obtain ⟨A2, c2, hv, _, _⟩ := hown.form
  subst hv
  have hO := Lib.hid hown
  clear hown
  go_wp2_with fail
  go_ret
  exact ⟨_, rfl, hO.out, hb⟩
end Go.Proofs.Ytbndonfpdioibaa

namespace Go.Proofs.Ytbndonfpdioibaa
set_option maxRecDepth 100000
set_option linter.unusedVariables false
open Go.RowKit

def totalOf (ps : List St) : Int := match unrolled ps with
  | none => -1
  | some os => valAt (fun _ => 1) os 0 0
theorem resp_one : Resp 0 (fun _ => 1) := fun _ _ _ _ _ => rfl

/-- The runs in the end, those alike in what is asked as one. -/
def Ended (base m : Nat) (asked : Int) (os : List St) (w : World) (e : Ending) (w' : World) : Prop :=
  ∃ (rs : Fr) (v : Value), e = .returned v ∧ w'.ownsRow base 101 3 v rs.length (rnflat (rns m rs)) ∧ FrOk rs ∧ sumV (fun _ => 1) rs ≤ 1000000000000000000 ∧ (∀ h, Resp asked h → sumV h rs = valAt h os 0 0) ∧ (∀ p ∈ rs, vo asked p.1 = p.1) ∧ Below base w w'

/-- The fronts of a sweep that has come to the end, and what else holds of them. -/
def Frtd (X : (Nat → Fr) → Nat → Fr → Prop) (base m : Nat) (asked : Int) (os : List St) (w : World) (e : Ending) (w' : World) : Prop :=
  ∃ (gf : Nat) (F : Nat → Fr) (vs : Nat → Value), e = .returned (.slice (some ⟨gf, 0, none⟩) (m + 1) (m + 1)) ∧ w.heap.size ≤ gf ∧ Frs w' base gf m F vs ∧ FrOk (F m) ∧ sumV (fun _ => 1) (F m) ≤ 1000000000000000000 ∧ (∀ h, Resp asked h → sumV h (F m) = valAt h os 0 0) ∧ (∀ p ∈ F m, vo asked p.1 = p.1) ∧ X F m (F m) ∧ Below w.heap.size w w'

set_option maxHeartbeats 2000000 in
theorem frontsOf_gen (X : (Nat → Fr) → Nat → Fr → Prop) (A : Option Addr) (m c : Nat) (os : List St) (asked : Int) (base : Nat) (w : World) (h : w.ownsRow base 78 7 (.slice A m c) m (flat os)) (hbs : base ≤ w.heap.size) (hm : m ≤ 12) (hM : os.length = m) (hok : ∀ s ∈ os, s.ok = true ∧ s.notLoop = true) (ha : 0 ≤ asked ∧ asked ≤ 15)
    (hX0 : X (toF m (lives asked os) (fun _ => []) ⟨0, 0, 1⟩) 0 (toF m (lives asked os) (fun _ => []) ⟨0, 0, 1⟩ 0))
    (hXs : ∀ (Fk : Nat → Fr) (i : Nat) (st wt : Int) (rs : Fr) (s : St), Gst asked os m (fun q => valAt q os 0 0) Fk i ((st, wt) :: rs) → i < m → os[i]? = some s → X Fk i ((st, wt) :: rs) → X (fD m (lives asked os) Fk s ⟨i, st, wt⟩ s.many) i rs)
    (hXn : ∀ (Fk : Nat → Fr) (i : Nat), i < m → X Fk i [] → X Fk (i + 1) (Fk (i + 1))) :
    Calls Try.prog 128 #[.slice A m c, .int .i64 asked] w (Frtd X base m asked os w) := by
  have hO := Lib.hid h
  have hX0h := Lib.hid hX0
  have hXsh := Lib.hid hXs
  have hXnh := Lib.hid hXn
  have hMo := Lib.hid hM
  have hOk := Lib.hid hok
  have hAll := Lib.hid (show os.all St.ok = true from List.all_eq_true.2 fun s hs => (hok s hs).1)
  clear h hM hok hX0 hXs hXn
  go_enter Try.func128, Try.ntmps128
  go_wp2_with fail
  refine (sweepOf_any A m c os asked _ (ownS_lst hO.out) hm hAll.out ha).mono ?_
  rintro e w2 ⟨gl, gf, cs, rfl, hol, hfr, hfa, hgf, hb2⟩
  have hz2 := hb2.size
  have hS := Swp.start (owns_but hO.out (KeptBut.of_below hb2 (fun _ => False)) (fun _ _ h => h)) (owns_le hol hbs) hfr hfa (by omega) (show base ≤ gf by omega)
  have hB2 := Lib.hid ((hb2.mono hbs).alloc (show base ≤ w2.heap.size by omega) (.cells #[.slice A m c, .slice (some ⟨gl, 0, none⟩) (m + 1) (m + 1), .slice (some ⟨gf, 0, none⟩) (m + 1) (m + 1)] 157))
  have hlv := Lib.hid (LvOk.of (asked := asked) hMo.out ha)
  have hS' := Lib.hid hS
  have hgfh := Lib.hid hgf
  have hW2 := Lib.hid (hb2.alloc hb2.size (.cells #[.slice A m c, .slice (some ⟨gl, 0, none⟩) (m + 1) (m + 1), .slice (some ⟨gf, 0, none⟩) (m + 1) (m + 1)] 157))
  clear hS hol hfr hfa hb2
  go_wp2_with fail
  generalize w2.alloc (.cells #[.slice A m c, .slice (some ⟨gl, 0, none⟩) (m + 1) (m + 1), .slice (some ⟨gf, 0, none⟩) (m + 1) (m + 1)] 157) = W3 at hS' hB2 hW2 ⊢
  generalize w2.heap.size = g at hS' ⊢
  refine (startRun_any _).mono ?_
  rintro e w3 ⟨rfl, hb3⟩
  have hS3 := hS'.out.below hb3
  have hW3 := Lib.hid (hW2.out.trans (hb3.mono hW2.out.size))
  have hB3 := Lib.hid (hB2.out.trans (hb3.mono (Nat.le_trans hbs hB2.out.size)))
  have cP := Lib.hid (put_any _ base g gl gf m A c os (lives asked os) (fun _ => []) (fun _ => .slice none 0 0) ⟨0, 0, 1⟩ hS3 hm hlv.out (fun _ => FrOk.nil) (by decide) (by simp) (fun i _ p hp => by simp at hp) (by simp))
  have hS3' := Lib.hid hS3
  clear hS3 hb3 hS'
  go_wp2_with fail
  refine (cP.out).mono ?_
  rintro e w4 ⟨rfl, vs4, hS4, hK4, _⟩
  have hB4 := Lib.hid (hB3.out.trans (hK4.1.below (B := base) (fun i hi e => by have := (hS3'.out.gt e).1; omega) (Nat.le_trans hbs hB3.out.size)))
  have cG := Lib.hid (goOn_gen X w4 asked base g gl gf m A c os _ vs4 _ hS4 hm hMo.out hOk.out hlv.out (gst_one hMo.out hm hOk.out (by decide)) hX0h.out hXsh.out hXnh.out)
  have hS4' := Lib.hid hS4
  have hK4h := Lib.hid hK4
  clear hS4 hK4 hS3' cP
  go_wp2_with fail
  refine (cG.out).mono ?_
  rintro e w5 ⟨F5, vs5, rfl, hS5, hK5, hF5, hsum5, hT5, hN5, hX5⟩
  have hB5 := Lib.hid (hW3.out.trans ((hK4h.out.trans hK5).1.below (B := w.heap.size) (fun i hi e => by
    have := hgfh.out
    rcases e with e | ⟨t, _, e⟩
    · omega
    · cases e) hW3.out.size))
  have hrow := hS5.2.2.2.1.2.1 m (Nat.le_refl _)
  obtain ⟨A6, c6, hv6, _, _⟩ := owns_form hrow
  have hF := Lib.hid (show Frtd X base m asked os w (.returned (.slice (some ⟨gf, 0, none⟩) (m + 1) (m + 1))) w5 from ⟨gf, F5, vs5, rfl, hgfh.out, hS5.2.2.2.1, hF5, hsum5, hT5, fun p hp => by
    have := hN5 m p hp
    rwa [lives_getD asked os m (by rw [hMo.out]; exact Nat.le_refl _), List.drop_eq_nil_of_le (by rw [hMo.out]; exact Nat.le_refl _)] at this, hX5, hB5.out⟩)
  have hcg := hS5.1.cell
  rw [hv6]
  clear hS5 hK5 hF5 hsum5 hT5 hN5 hX5 hrow hv6 cG hS4'
  go_wp2_with fail
  go_ret
  exact hF.out

theorem endsOf_any (A : Option Addr) (m c : Nat) (os : List St) (asked : Int) (base : Nat) (w : World) (h : w.ownsRow base 78 7 (.slice A m c) m (flat os)) (hbs : base ≤ w.heap.size) (hm : m ≤ 12) (hM : os.length = m) (hok : ∀ s ∈ os, s.ok = true ∧ s.notLoop = true) (ha : 0 ≤ asked ∧ asked ≤ 15) :
    Calls Try.prog 85 #[.slice A m c, .int .i64 asked] w (Ended base m asked os w) := by
  have cF := Lib.hid (frontsOf_gen (fun _ _ _ => True) A m c os asked base w h hbs hm hM hok ha trivial (fun _ _ _ _ _ _ _ _ _ h => h) (fun _ _ _ h => h))
  have hMo := Lib.hid hM
  clear h hM hok
  go_enter Try.func85, Try.ntmps85
  go_wp2_with fail
  refine (cF.out).mono ?_
  rintro e w5 ⟨gf, F5, vs5, rfl, hgf, hfr, hF5, hsum5, hT5, hN5, _, hB5⟩
  obtain ⟨⟨cs, hcf, hfa⟩, hrw, _⟩ := hfr
  have hrow := hrw m (Nat.le_refl _)
  obtain ⟨A6, c6, hv6, _, _⟩ := owns_form hrow
  have f0 : w5.cell? ⟨gf, m * 82, none⟩ = some (vs5 m) := (hcf.cell _).trans (hfa.2 m (Nat.le_refl _)).1
  have hF := Lib.hid (show Ended base m asked os w (.returned (vs5 m)) w5 from ⟨F5 m, _, rfl, hrow, hF5, hsum5, hT5, hN5, hB5.mono hbs⟩)
  rw [hv6] at hF f0
  have hi0 : (0 : Int) ≤ (m : Int) := by omega
  have hi1 : (m : Int) < (m : Int) + 1 := by omega
  have hi2 : m < m + 1 := by omega
  clear hrow hrw hv6 cF hcf hfa hF5 hsum5 hT5 hN5 hB5
  go_wp2_with fail
  go_ret
  exact hF.out

set_option maxHeartbeats 2000000 in
theorem TotalOf_any (A : Option Addr) (n c : Nat) (ps : List St) (w : World) (h : Lst w w.heap.size A n ps) (hn : n ≤ c) (hc : c ≤ maxLen) :
    Calls Try.prog 39 #[.slice A n c] w fun e w' => e = .returned (.int .i64 (totalOf ps)) ∧ Below w.heap.size w w' := by
  have hC := Lib.hid (Unrolled_any A n c ps w h hn hc)
  clear h hc
  cases hu : unrolled ps with
  | none =>
    have hU := Lib.hid hu
    have hR := Lib.hid (show totalOf ps = -1 by unfold totalOf; rw [hu])
    clear hu
    go_enter Try.func39, Try.ntmps39
    go_wp2_with fail
    refine (hC.out).mono ?_
    rw [hU.out]
    rintro e w1 ⟨v, rfl, hown, hb⟩
    clear hown
    go_wp2_with fail
    go_ret
    exact ⟨ret_int hR.out, hb⟩
  | some os =>
    obtain ⟨_, hlen, _, hNL, hOK⟩ := unrolled_parts hu
    have hU := Lib.hid hu
    have hR := Lib.hid (show totalOf ps = valAt (fun _ => 1) os 0 0 by unfold totalOf; rw [hu])
    have hOkN := Lib.hid (show ∀ s ∈ os, s.ok = true ∧ s.notLoop = true from fun s hs => ⟨List.all_eq_true.1 hOK s hs, hNL s hs⟩)
    have hOk := Lib.hid hOK
    clear hu hNL hOK
    go_enter Try.func39, Try.ntmps39
    go_wp2_with fail
    refine (hC.out).mono ?_
    rw [hU.out]
    rintro e w1 ⟨v, rfl, hown', hb⟩
    have hown : Own w1 w.heap.size v os := hown'
    obtain ⟨A3, c3, hv, hlc, hcm⟩ := hown.form
    subst hv
    generalize hm : os.length = m at hlen hlc ⊢
    have hM := Lib.hid hm
    have hO := Lib.hid (show w1.ownsRow w.heap.size 78 7 (.slice A3 m c3) m (flat os) from by
      have := hown
      unfold Own at this
      rwa [hm] at this)
    have hB1 := Lib.hid hb
    have hz1 := hb.size
    clear hown hown' hm hb
    go_wp2_with fail
    refine (endsOf_any A3 m c3 os 0 w.heap.size _ hO.out hz1 hlen hM.out hOkN.out (by decide)).mono ?_
    rintro e w5 ⟨rs, v6, rfl, hrow, hF5, hsum5, hT5, _, hb5⟩
    have hB5 := Lib.hid (hB1.out.trans hb5)
    obtain ⟨A6, c6, hv6, _, _⟩ := owns_form hrow
    rw [hv6] at hrow ⊢
    have hw := Lib.hid (show sumV (fun _ => 1) rs = totalOf ps from by rw [hR.out]; exact hT5 _ resp_one)
    have hpos := Lib.hid (fun p (hp : p ∈ rs) => Int.le_of_lt (hF5.1 p hp).2)
    have hFl := hF5.len
    have hpart := Lib.hid (fun k => sumV_part (k := k) hpos.out)
    have hpart0 := Lib.hid (fun k => sumV_nonneg (v := fun _ => 1) (rs := rs.take k) (fun p hp => ⟨hpos.out p (List.mem_of_mem_take hp), by omega⟩))
    have hF5' := Lib.hid hF5
    generalize hn : rs.length = n at hrow hFl ⊢
    have hN := Lib.hid hn
    have hRow := Lib.hid hrow
    have hn9 : n ≤ 9223372036854775807 := by omega
    clear hF5 hT5 hrow hv6 hb5 hn
    go_wp2_with fail
    go_loopg [5, 18] n (fun gn t v wr => ∃ k : Nat, k ≤ n ∧ gn = n - k ∧ v = .int .i64 k ∧ t = .int .i64 (sumV (fun _ => 1) (rs.take k)) ∧ Below w5.heap.size w5 wr)
    case atStart => exact ⟨0, Nat.zero_le _, rfl, rfl, rfl, Below.refl _ _⟩
    case round =>
      obtain ⟨k, hk, hgn, rfl, rfl, hb⟩ := hrel
      have hgk : gk = n - k := hgn
      have hz := hb.size
      clear hgn
      by_cases hlt : k < n
      · obtain ⟨p, hp⟩ : ∃ p, rs[k]? = some p := ⟨_, List.getElem?_eq_getElem (by rw [hN.out]; exact hlt)⟩
        obtain ⟨z, wt⟩ := p
        obtain ⟨b, curb, rfl, _, hhb, _, _, _, hbc⟩ := owns_open (owns_but hRow.out (KeptBut.of_below hb (fun _ => False)) (fun _ _ h => h)) (by omega)
        have hrp := rns_at (i := m) hp
        have e0 : wr.cell? ⟨b, k * 3, none⟩ = some (.int .i64 m) := (hbc _ (by omega)).trans (rnflat_at (q := 0) hrp rfl)
        have e1 : wr.cell? ⟨b, k * 3 + 1, none⟩ = some (.int .i64 z) := (hbc _ (by omega)).trans (rnflat_at (q := 1) hrp rfl)
        have e2 : wr.cell? ⟨b, k * 3 + 2, none⟩ = some (.int .i64 wt) := (hbc _ (by omega)).trans (rnflat_at (q := 2) hrp rfl)
        have hst := sumV_take (v := fun _ => 1) hp
        have h1 := hpart.out k
        have h2 := hpart0.out k
        have h3 := hpart.out (k + 1)
        have hw0 := (hF5'.out.1 _ (List.mem_of_getElem? hp)).2
        have hw0' : 0 < wt := hw0
        have hB6 := Lib.hid (hb.alloc hz (.cells #[.int .i64 m, .int .i64 z, .int .i64 wt] 101))
        have hs1 : sumV (fun _ => 1) (rs.take (k + 1)) = sumV (fun _ => 1) (rs.take k) + wt := by rw [hst, Int.mul_one]
        have hS1 := Lib.hid hs1
        rw [hs1] at h3
        generalize sumV (fun _ => 1) (rs.take k) = a at h1 h2 h3 hS1 ⊢
        have hk0 : (0 : Int) ≤ (k : Int) := by omega
        have hk1 : (k : Int) < (n : Int) := by omega
        clear hst hs1 hrp hbc hhb hp hb hw0
        go_wp2_with fail
        go_roundg (n - (k + 1))
        case measure => omega
        case rel => exact ⟨k + 1, by omega, rfl, by go_num, by rw [hS1.out], hB6.out⟩
      · obtain rfl : k = n := by omega
        have hE := Lib.hid (show totalOf ps = sumV (fun _ => 1) (rs.take k) by rw [← hw.out, List.take_of_length_le (by rw [hN.out]; exact Nat.le_refl _)])
        go_wp2_with fail
        go_ret
        exact ⟨ret_int hE.out, hB5.out.trans (hb.mono hB5.out.size)⟩

/-- The states with a weight. -/
def reach (ws : List Int) (k : Nat) : List Int := ((List.range k).filter fun q => ws.getD q 0 != 0).map Int.ofNat
theorem reach_succ (ws : List Int) (k : Nat) : reach ws (k + 1) = reach ws k ++ if ws.getD k 0 = 0 then [] else [(k : Int)] := by
  unfold reach
  rw [List.range_succ, List.filter_append, List.map_append]
  congr 1
  by_cases h : ws.getD k 0 = 0
  · rw [if_pos h, List.filter_cons_of_neg (by show ¬ ((ws.getD k 0 != 0) = true); rw [h]; decide)]
    rfl
  · rw [if_neg h, List.filter_cons_of_pos (by simpa using h)]
    rfl
theorem reach_len (ws : List Int) (k : Nat) : (reach ws k).length ≤ k := by
  unfold reach
  rw [List.length_map]
  exact Nat.le_trans (List.length_filter_le _ _) (by simp)
def reached (ps : List St) : List Int := reach (weightsFrom ps 0) (weightsFrom ps 0).length

end Go.Proofs.Ytbndonfpdioibaa
