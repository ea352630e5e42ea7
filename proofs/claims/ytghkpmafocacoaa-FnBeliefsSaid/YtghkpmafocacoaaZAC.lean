/- Parts of the proof: Sm, Ag, An, G3, K0, L0, Ca, Swx, Rd, Tx, Tk. -/
import Derived.Deep.AppendLies
import Derived.Deep.LoopGhost
import Derived.Test.YtghkpmafocacoaaZAB
import Derived.Test.YtghkpmafocacoaaZAA
import Derived.Deep.RegionHeld3
import Derived.Deep.RegionLaw
import Derived.StillTailTactics
import Derived.IntWalk
import Derived.Laws.BitsAllLaws
import Derived.Laws.BitsLemmas
import Derived.WalkLawsBesides
import Derived.Deep.Light
import Derived.Laws.BytesArg
import Derived.Maps.AppendAt
import Derived.Laws.Strings
namespace Go.Proofs.Ytghkpmafocacoaa
set_option maxRecDepth 100000
set_option linter.unusedVariables false
open Go.RowKit
theorem new_one (w : World) (x : Value) (t : TypeId) : ∀ j u, [x][j]? = some u → (w.alloc (.cells #[x] t)).cell? ((⟨w.heap.size, 0, none⟩ : Addr).add j) = some u := by
  intro j u hu
  have hj : j = 0 := by
    have := (List.getElem?_eq_some_iff.1 hu).1
    simp at this; exact this
  subst hj
  have hu' : x = u := by simpa using hu
  subst hu'
  have h := (Has.new w t #[x]).cell 0
  simp [Addr.add] at h ⊢
/-- How weights are told. -/
def Wtsd (w : World) (os : List Int) (e : Ending) (w' : World) : Prop := ∃ v, e = .returned v ∧ IOwn w' w.heap.size v os ∧ Below w.heap.size w w'
/-- What a row is worth, its first entry being of state k. -/
def rsum (v : Int → Int) : List Int → Nat → Int
  | [], _ => 0
  | u :: r, k => u * v k + rsum v r (k + 1)
theorem rsum_nonneg {v : Int → Int} (hv : ∀ k, 0 ≤ v k) : ∀ {r : List Int} (k : Nat), (∀ x ∈ r, 0 ≤ x) → 0 ≤ rsum v r k
  | [], _, _ => by simp [rsum]
  | u :: r, k, h => by
    have h1 := Int.mul_nonneg (h u List.mem_cons_self) (hv k)
    have h2 := rsum_nonneg hv (k + 1) (fun x hx => h x (List.mem_cons_of_mem _ hx))
    rw [rsum]; omega
theorem rsum_ge {v : Int → Int} (hv : ∀ k, 1 ≤ v k) : ∀ {r : List Int} (k : Nat), (∀ x ∈ r, 0 ≤ x) → ∀ x ∈ r, x ≤ rsum v r k
  | [], _, _, x, hx => by simp at hx
  | u :: r, k, h, x, hx => by
    have h1 : u * 1 ≤ u * v k := Int.mul_le_mul_of_nonneg_left (hv k) (h u List.mem_cons_self)
    have h2 := rsum_nonneg (fun k => Int.le_trans (by decide) (hv k)) (k + 1) (fun x hx => h x (List.mem_cons_of_mem _ hx))
    have h0 := h u List.mem_cons_self
    rw [rsum]
    rcases List.mem_cons.1 hx with rfl | hx
    · omega
    · have := rsum_ge hv (k + 1) (fun x hx => h x (List.mem_cons_of_mem _ hx)) x hx
      omega
def zs (n : Nat) : List Int := List.replicate n 0
theorem zs_len (n : Nat) : (zs n).length = n := List.length_replicate
def isum : List Int → Int
  | [] => 0
  | u :: r => u + isum r
theorem isum_append : ∀ (a b : List Int), isum (a ++ b) = isum a + isum b
  | [], b => by simp [isum]
  | u :: r, b => by rw [List.cons_append, isum, isum, isum_append r b]; omega
theorem isum_take {ds : List Int} {k : Nat} {d : Int} (h : ds[k]? = some d) : isum (ds.take (k + 1)) = isum (ds.take k) + d := by
  obtain ⟨hl, he⟩ := List.getElem?_eq_some_iff.1 h
  rw [List.take_succ_eq_append_getElem hl, isum_append, he]
  simp [isum]
theorem isum_nonneg : ∀ {ds : List Int}, (∀ x ∈ ds, 0 ≤ x) → 0 ≤ isum ds
  | [], _ => by simp [isum]
  | u :: r, h => by
    have h1 := h u List.mem_cons_self
    have h2 := isum_nonneg (fun x hx => h x (List.mem_cons_of_mem u hx))
    rw [isum]; omega
theorem isum_le {ds : List Int} (h : ∀ x ∈ ds, 0 ≤ x) (k : Nat) : 0 ≤ isum (ds.take k) ∧ isum (ds.take k) ≤ isum ds := by
  have h1 := isum_nonneg (ds := ds.take k) (fun x hx => h x (List.mem_of_mem_take hx))
  have h2 := isum_nonneg (ds := ds.drop k) (fun x hx => h x (List.mem_of_mem_drop hx))
  have h3 := isum_append (ds.take k) (ds.drop k)
  rw [List.take_append_drop] at h3
  omega
end Go.Proofs.Ytghkpmafocacoaa

namespace Go.Proofs.Ytghkpmafocacoaa
set_option maxRecDepth 100000
set_option linter.unusedVariables false
open Go.RowKit
/-- The greatest number that divides both. -/
def gcdI (a b : Int) : Int := (Nat.gcd a.toNat b.toNat : Nat)
theorem gcdI_zero {a : Int} (h : 0 ≤ a) : gcdI a 0 = a := by
  unfold gcdI
  rw [show (0 : Int).toNat = 0 from rfl, Nat.gcd_zero_right]
  omega
theorem gcdI_step {a b : Int} (ha : 0 ≤ a) (hb : 0 < b) : gcdI b (a % b) = gcdI a b := by
  obtain ⟨x, rfl⟩ := Int.eq_ofNat_of_zero_le ha
  obtain ⟨y, rfl⟩ := Int.eq_ofNat_of_zero_le (Int.le_of_lt hb)
  unfold gcdI
  rw [← Int.natCast_emod, Int.toNat_natCast, Int.toNat_natCast, Int.toNat_natCast, Nat.gcd_comm x y, Nat.gcd_rec y x, Nat.gcd_comm]
theorem gcdI_bd {a b M : Int} (ha : 0 ≤ a ∧ a ≤ M) (hb : 0 ≤ b ∧ b ≤ M) : 0 ≤ gcdI a b ∧ gcdI a b ≤ M := by
  unfold gcdI
  refine ⟨Int.natCast_nonneg _, ?_⟩
  rcases Nat.eq_zero_or_pos b.toNat with h | h
  · rw [h, Nat.gcd_zero_right]; omega
  · have := Nat.gcd_le_right a.toNat h
    omega
theorem gcdI_dvd {a b : Int} (ha : 0 ≤ a) (hb : 0 ≤ b) : gcdI a b ∣ a ∧ gcdI a b ∣ b := by
  unfold gcdI
  have h1 := Nat.gcd_dvd_left a.toNat b.toNat
  have h2 := Nat.gcd_dvd_right a.toNat b.toNat
  have e1 : ((a.toNat : Nat) : Int) = a := Int.toNat_of_nonneg ha
  have e2 : ((b.toNat : Nat) : Int) = b := Int.toNat_of_nonneg hb
  constructor
  · have := Int.natCast_dvd_natCast.2 h1
    rwa [e1] at this
  · have := Int.natCast_dvd_natCast.2 h2
    rwa [e2] at this
theorem commonOf_any (a b : Int) (w : World) (ha : 0 ≤ a ∧ a ≤ 9223372036854775807) (hb : 0 ≤ b ∧ b ≤ 9223372036854775807) :
    Calls Try.prog 150 #[.int .i64 a, .int .i64 b] w fun e w' => e = .returned (.int .i64 (gcdI a b)) ∧ ∃ k, w' = w.drewN k := by
  go_enter Try.func150, Try.ntmps150
  go_wp2
  go_loopw [0, 1] (fun u v wr => ∃ x y : Int, u = .int .i64 x ∧ v = .int .i64 y ∧ (0 ≤ x ∧ x ≤ 9223372036854775807) ∧ (0 ≤ y ∧ y ≤ 9223372036854775807) ∧ gcdI x y = gcdI a b ∧ ∃ q, wr = w.drewN q) (fun _ v _ => (intOf v).toNat)
  case atStart => exact ⟨a, b, rfl, rfl, ha, hb, rfl, 0, rfl⟩
  case round =>
    obtain ⟨x, y, rfl, rfl, hx, hy, he, q, rfl⟩ := hrel
    have hE := Lib.hid he
    clear he
    by_cases h0 : 0 < y
    · have hm1 : 0 ≤ x % y := Int.emod_nonneg _ (by omega)
      have hm2 : x % y < y := Int.emod_lt_of_pos _ h0
      have hS := Lib.hid (gcdI_step hx.1 h0)
      go_wp2
      go_quiet (fail)
      go_wp2
      exact ⟨⟨y, x % y, rfl, rfl, hy, ⟨hm1, by omega⟩, hS.out.trans hE.out, _, World.drewN_drewN _ _ _⟩, by simp [intOf]; omega⟩
    · have hy0 : y = 0 := by omega
      have hS := Lib.hid (show gcdI a b = x by rw [← hE.out, hy0, gcdI_zero hx.1])
      go_wp2
      go_ret
      exact ⟨ret_int hS.out, _, rfl⟩
end Go.Proofs.Ytghkpmafocacoaa

namespace Go.Proofs.Ytghkpmafocacoaa
set_option maxRecDepth 100000
set_option linter.unusedVariables false
open Go.RowKit
/-- All numbers are from 0 to m. -/
def numsOk (m : Int) (ds : List Int) : Bool := ds.all fun d => inB d 0 m
theorem numsOk_no {m : Int} {ds : List Int} {k : Nat} {d : Int} (h : ds[k]? = some d) (hd : inB d 0 m = false) : numsOk m ds = false := by
  unfold numsOk
  rw [List.all_eq_false]
  exact ⟨d, List.mem_of_getElem? h, by rw [hd]; decide⟩
theorem numsOk_step {m : Int} {ds : List Int} {k : Nat} {d : Int} (h : numsOk m (ds.take k) = true) (hd : ds[k]? = some d) (hi : inB d 0 m = true) : numsOk m (ds.take (k + 1)) = true := by
  obtain ⟨hl, he⟩ := List.getElem?_eq_some_iff.1 hd
  unfold numsOk at h ⊢
  rw [List.take_succ_eq_append_getElem hl, he, List.all_append, h]
  simp [hi]
theorem numsOk_bd {m : Int} {ds : List Int} (h : numsOk m ds = true) : ∀ x ∈ ds, 0 ≤ x ∧ x ≤ m := fun x hx => inB_iff.1 (List.all_eq_true.1 h x hx)
/-- A number for each state, from 0 to m. -/
def lstOk (m : Int) (ds : List Int) : Bool := decide (ds.length = 81) && numsOk m ds
theorem lstOk_bd {m : Int} {ds : List Int} (h : lstOk m ds = true) : ds.length = 81 ∧ ∀ x ∈ ds, 0 ≤ x ∧ x ≤ m := by
  unfold lstOk at h
  rw [Bool.and_eq_true] at h
  exact ⟨of_decide_eq_true h.1, numsOk_bd h.2⟩
/-- The greatest number that divides all. -/
def gcdF (ds : List Int) : Int := ds.foldl gcdI 0
theorem gcdF_take {ds : List Int} {k : Nat} {d : Int} (h : ds[k]? = some d) : gcdF (ds.take (k + 1)) = gcdI (gcdF (ds.take k)) d := by
  obtain ⟨hl, he⟩ := List.getElem?_eq_some_iff.1 h
  unfold gcdF
  rw [List.take_succ_eq_append_getElem hl, he, List.foldl_append]; rfl
theorem foldl_gcd {M : Int} : ∀ {ds : List Int} {a : Int}, (∀ x ∈ ds, 0 ≤ x ∧ x ≤ M) → 0 ≤ a ∧ a ≤ M → (0 ≤ ds.foldl gcdI a ∧ ds.foldl gcdI a ≤ M) ∧ ds.foldl gcdI a ∣ a ∧ ∀ x ∈ ds, ds.foldl gcdI a ∣ x
  | [], a, _, ha => ⟨ha, Int.dvd_refl a, fun x hx => by simp at hx⟩
  | u :: r, a, h, ha => by
    have hu := h u List.mem_cons_self
    obtain ⟨h1, h2, h3⟩ := foldl_gcd (ds := r) (a := gcdI a u) (fun x hx => h x (List.mem_cons_of_mem _ hx)) (gcdI_bd ha hu)
    obtain ⟨d1, d2⟩ := gcdI_dvd ha.1 hu.1
    refine ⟨h1, Int.dvd_trans h2 d1, fun x hx => ?_⟩
    rcases List.mem_cons.1 hx with rfl | hx
    · exact Int.dvd_trans h2 d2
    · exact h3 x hx
theorem gcdF_bd {M : Int} {ds : List Int} (h : ∀ x ∈ ds, 0 ≤ x ∧ x ≤ M) (hM : 0 ≤ M) : 0 ≤ gcdF ds ∧ gcdF ds ≤ M := (foldl_gcd h ⟨Int.le_refl _, hM⟩).1
theorem gcdF_dvd {M : Int} {ds : List Int} (h : ∀ x ∈ ds, 0 ≤ x ∧ x ≤ M) (hM : 0 ≤ M) : ∀ x ∈ ds, gcdF ds ∣ x := (foldl_gcd h ⟨Int.le_refl _, hM⟩).2.2
theorem gcdF_part {M : Int} {ds : List Int} (h : ∀ x ∈ ds, 0 ≤ x ∧ x ≤ M) (hM : 0 ≤ M) (k : Nat) : 0 ≤ gcdF (ds.take k) ∧ gcdF (ds.take k) ≤ M := gcdF_bd (fun x hx => h x (List.mem_of_mem_take hx)) hM
/-- Numbers divided by one, or as they are if that is 0. -/
def divL (ds : List Int) (g : Int) : List Int := if g = 0 then ds else ds.map fun d => d / g
theorem divL_len (ds : List Int) (g : Int) : (divL ds g).length = ds.length := by unfold divL; split <;> simp
/-- Numbers, divided by what all have in common. -/
def redL (ds : List Int) : List Int := divL ds (gcdF ds)
def reduced (ds : List Int) : List Int := if numsOk 1000000000 ds = true then redL ds else []
theorem reduced_len (ds : List Int) : (reduced ds).length ≤ ds.length := by
  unfold reduced redL
  split
  · rw [divL_len]; exact Nat.le_refl _
  · simp
theorem isum_top {M : Int} (hM : 0 ≤ M) : ∀ {ds : List Int}, (∀ x ∈ ds, 0 ≤ x ∧ x ≤ M) → 0 ≤ isum ds ∧ isum ds ≤ ds.length * M
  | [], _ => by simp [isum]
  | u :: r, h => by
    have h1 := h u List.mem_cons_self
    have h2 := isum_top hM (ds := r) (fun x hx => h x (List.mem_cons_of_mem _ hx))
    have e : (((u :: r).length : Nat) : Int) * M = (r.length : Int) * M + M := by rw [List.length_cons, Int.natCast_add, Int.add_mul]; simp
    rw [isum, e]
    omega
theorem rsum_append (v : Int → Int) : ∀ (a b : List Int) (k : Nat), rsum v (a ++ b) k = rsum v a k + rsum v b (k + a.length)
  | [], b, k => by simp [rsum]
  | u :: r, b, k => by
    rw [List.cons_append, rsum, rsum, rsum_append v r b (k + 1), List.length_cons, show k + 1 + r.length = k + (r.length + 1) by omega]
    omega
theorem rsum_take (v : Int → Int) {ds : List Int} {k : Nat} {d : Int} (h : ds[k]? = some d) : rsum v (ds.take (k + 1)) 0 = rsum v (ds.take k) 0 + d * v k := by
  obtain ⟨hl, he⟩ := List.getElem?_eq_some_iff.1 h
  have e : 0 + (ds.take k).length = k := by rw [List.length_take]; omega
  rw [List.take_succ_eq_append_getElem hl, rsum_append, he, e]
  simp [rsum]
theorem rsum_one' : ∀ (ds : List Int) (k : Nat), rsum (fun _ => 1) ds k = isum ds
  | [], k => rfl
  | u :: r, k => by rw [rsum, isum, rsum_one' r (k + 1), Int.mul_one]
/-- Parts of a sum. -/
theorem rsum_part {v : Int → Int} {c : Int} (hv : ∀ k, 0 ≤ v k ∧ v k ≤ c) : ∀ {ds : List Int} (k : Nat), (∀ x ∈ ds, 0 ≤ x) → 0 ≤ rsum v ds k ∧ rsum v ds k ≤ isum ds * c
  | [], k, _ => by simp [rsum, isum]
  | u :: r, k, h => by
    have h1 := h u List.mem_cons_self
    have h2 := rsum_part hv (ds := r) (k + 1) (fun x hx => h x (List.mem_cons_of_mem _ hx))
    have h3 := Int.mul_nonneg h1 (hv k).1
    have h4 : u * v k ≤ u * c := Int.mul_le_mul_of_nonneg_left (hv k).2 h1
    rw [rsum, isum, Int.add_mul]
    omega
/-- 1 in the states in which a variable has a value. -/
def ev (v x : Int) (st : Int) : Int := if valueAt st v = x then 1 else 0
theorem ev_bd (v x st : Int) : 0 ≤ ev v x st ∧ ev v x st ≤ 1 := by unfold ev; split <;> omega
/-- The weights of the values of a variable. -/
def marg (ds : List Int) (v : Int) : List Int := [rsum (ev v 0) ds 0, rsum (ev v 1) ds 0, rsum (ev v 2) ds 0]
theorem marg_at (ds : List Int) (v : Int) {z : Nat} (hz : z < 3) : (marg ds v)[z]? = some (rsum (ev v z) ds 0) := by
  obtain rfl | rfl | rfl : z = 0 ∨ z = 1 ∨ z = 2 := by omega
  all_goals rfl
theorem marg_step {ds : List Int} {v : Int} {k z : Nat} {d : Int} (hd : ds[k]? = some d) (hz : valueAt k v = z) (h3 : z < 3) :
    (marg (ds.take k) v).set z (rsum (ev v z) (ds.take k) 0 + d) = marg (ds.take (k + 1)) v := by
  unfold marg
  rw [rsum_take _ hd, rsum_take _ hd, rsum_take _ hd]
  have e : ∀ x : Int, ev v x k = if (z : Int) = x then 1 else 0 := fun x => by unfold ev; rw [hz]
  rw [e, e, e]
  obtain rfl | rfl | rfl : z = 0 ∨ z = 1 ∨ z = 2 := by omega
  all_goals simp
theorem marg_bd {ds : List Int} (h : ∀ x ∈ ds, 0 ≤ x) (v x : Int) (k : Nat) : 0 ≤ rsum (ev v x) (ds.take k) 0 ∧ rsum (ev v x) (ds.take k) 0 ≤ isum ds := by
  have h1 := rsum_part (ev_bd v x) (ds := ds.take k) 0 (fun y hy => h y (List.mem_of_mem_take hy))
  have h2 := (isum_le h k).2
  omega
theorem state_val {st v : Int} (hs : 0 ≤ st ∧ st ≤ 80) (hv : 0 ≤ v ∧ v ≤ 3) : 0 ≤ valueAt st v ∧ valueAt st v ≤ 2 := by
  unfold valueAt
  rw [if_pos ⟨inB_yes hs, inB_yes hv⟩]
  omega
end Go.Proofs.Ytghkpmafocacoaa

namespace Go.Proofs.Ytghkpmafocacoaa
set_option maxRecDepth 100000
set_option linter.unusedVariables false
open Go.RowKit
structure Fac where
  vs : List Int
  ns : List Int
def vAt (vs : List Int) (i : Nat) : Int := vs.getD i 0
def vOkAt (vs : List Int) (i : Nat) : Bool := inB (vAt vs i) 0 3 && (decide (i = 0) || decide (vAt vs (i - 1) < vAt vs i))
def varsOk (vs : List Int) : Bool := (List.range vs.length).all (vOkAt vs)
def facOk (M : Int) (F : Fac) : Bool := varsOk F.vs && (numsOk M F.ns && decide (F.ns.length = 3 ^ F.vs.length))
/-- The index of a number: the first variable changes first. -/
def idx (vs : List Int) (st : Int) : Int := vs.foldr (fun v at_ => 3 * at_ + valueAt st v) 0
def fAt (F : Fac) (st : Int) : Int := F.ns.getD (idx F.vs st).toNat 0
def over (L : Int) : List Int := ((List.range 4).filter fun v => tb L v).map fun (v : Nat) => (v : Int)
def setOf (vs : List Int) : Int := vs.foldl (fun s v => bor s (bitN v)) 0
/-- The state that has the values of an index, and 0 for all other variables. -/
def stF : List Int → Int → Int → Int
  | [], _, x => x
  | v :: r, i, x => stF r (i / 3) (withValue x v (i % 3))
def stOf (vs : List Int) (i : Int) : Int := stF vs i 0
theorem vars_five {vs : List Int} (h : varsOk vs = true) : ∀ i, i < vs.length → (0 ≤ vAt vs i ∧ vAt vs i ≤ 3) ∧ (0 < i → vAt vs (i - 1) < vAt vs i) := fun i hi => by
  have := List.all_eq_true.1 h i (List.mem_range.2 hi)
  unfold vOkAt at this
  rw [Bool.and_eq_true, Bool.or_eq_true] at this
  refine ⟨inB_iff.1 this.1, fun h0 => ?_⟩
  rcases this.2 with h1 | h1
  · have := of_decide_eq_true h1; omega
  · exact of_decide_eq_true h1
/-- Ascending variables are those of their set. -/
theorem vars_over {vs : List Int} (h : varsOk vs = true) : ∃ L : Fin 16, vs = over (L.val : Int) := by
  have hv := vars_five h
  match vs, hv with
  | [], _ => exact ⟨0, by decide⟩
  | [a], hv =>
    have h0 := hv 0 (by simp)
    simp [vAt] at h0
    obtain rfl | rfl | rfl | rfl : a = 0 ∨ a = 1 ∨ a = 2 ∨ a = 3 := by omega
    · exact ⟨1, by decide⟩
    · exact ⟨2, by decide⟩
    · exact ⟨4, by decide⟩
    · exact ⟨8, by decide⟩
  | [a, b], hv =>
    have h0 := hv 0 (by simp)
    have h1 := hv 1 (by simp)
    simp [vAt] at h0 h1
    have : (a = 0 ∧ b = 1) ∨ (a = 0 ∧ b = 2) ∨ (a = 0 ∧ b = 3) ∨ (a = 1 ∧ b = 2) ∨ (a = 1 ∧ b = 3) ∨ (a = 2 ∧ b = 3) := by omega
    obtain ⟨rfl, rfl⟩ | ⟨rfl, rfl⟩ | ⟨rfl, rfl⟩ | ⟨rfl, rfl⟩ | ⟨rfl, rfl⟩ | ⟨rfl, rfl⟩ := this
    · exact ⟨3, by decide⟩
    · exact ⟨5, by decide⟩
    · exact ⟨9, by decide⟩
    · exact ⟨6, by decide⟩
    · exact ⟨10, by decide⟩
    · exact ⟨12, by decide⟩
  | [a, b, c], hv =>
    have h0 := hv 0 (by simp)
    have h1 := hv 1 (by simp)
    have h2 := hv 2 (by simp)
    simp [vAt] at h0 h1 h2
    have : (a = 0 ∧ b = 1 ∧ c = 2) ∨ (a = 0 ∧ b = 1 ∧ c = 3) ∨ (a = 0 ∧ b = 2 ∧ c = 3) ∨ (a = 1 ∧ b = 2 ∧ c = 3) := by omega
    obtain ⟨rfl, rfl, rfl⟩ | ⟨rfl, rfl, rfl⟩ | ⟨rfl, rfl, rfl⟩ | ⟨rfl, rfl, rfl⟩ := this
    · exact ⟨7, by decide⟩
    · exact ⟨11, by decide⟩
    · exact ⟨13, by decide⟩
    · exact ⟨14, by decide⟩
  | [a, b, c, d], hv =>
    have h0 := hv 0 (by simp)
    have h1 := hv 1 (by simp)
    have h2 := hv 2 (by simp)
    have h3 := hv 3 (by simp)
    simp [vAt] at h0 h1 h2 h3
    obtain ⟨rfl, rfl, rfl, rfl⟩ : a = 0 ∧ b = 1 ∧ c = 2 ∧ d = 3 := by omega
    exact ⟨15, by decide⟩
  | a :: b :: c :: d :: e :: r, hv =>
    have h0 := hv 0 (by simp)
    have h1 := hv 1 (by simp)
    have h2 := hv 2 (by simp)
    have h3 := hv 3 (by simp)
    have h4 := hv 4 (by simp)
    simp [vAt] at h0 h1 h2 h3 h4
    omega
theorem over_ok : ∀ L : Fin 16, varsOk (over (L.val : Int)) = true ∧ setOf (over (L.val : Int)) = L.val ∧ (over (L.val : Int)).length ≤ 4 := by decide +kernel
/-- What an index hangs on. -/
theorem idx_agree {vs : List Int} {a b : Int} (h : ∀ v ∈ vs, valueAt a v = valueAt b v) : idx vs a = idx vs b := by
  unfold idx
  induction vs with
  | nil => rfl
  | cons v r ih =>
    rw [List.foldr_cons, List.foldr_cons, ih (fun u hu => h u (List.mem_cons_of_mem v hu)), h v List.mem_cons_self]
theorem fAt_agree {F : Fac} {a b : Int} (h : ∀ v ∈ F.vs, valueAt a v = valueAt b v) : fAt F a = fAt F b := by
  unfold fAt
  rw [idx_agree h]
/-- A list of numbers by the states of a set of variables is a factor with just these numbers. -/
def facBy_ (L : Int) (g : Int → Int) : Fac := ⟨over L, (List.range (3 ^ (over L).length)).map fun (i : Nat) => g (stOf (over L) i)⟩
/-- The set of a factor's variables. -/
theorem fac_set {M : Int} {F : Fac} (h : facOk M F = true) : ∃ L : Fin 16, F.vs = over (L.val : Int) ∧ setOf F.vs = L.val ∧ ∀ v ∈ F.vs, ∃ u : Fin 4, v = (u.val : Int) ∧ tb (L.val : Int) u.val = true := by
  unfold facOk at h
  rw [Bool.and_eq_true] at h
  obtain ⟨L, hL⟩ := vars_over h.1
  refine ⟨L, hL, by rw [hL]; exact (over_ok L).2.1, fun v hv => ?_⟩
  have hv' := hv
  rw [hL] at hv'
  unfold over at hv'
  obtain ⟨u, hu, rfl⟩ := List.mem_map.1 hv'
  obtain ⟨h1, h2⟩ := List.mem_filter.1 hu
  exact ⟨⟨u, by simpa using h1⟩, rfl, h2⟩
theorem nat_three {v : Int} (hv : 0 ≤ v ∧ v ≤ 3) : ∃ V : Fin 4, v = (V.val : Int) ∧ V.val = v.toNat := ⟨⟨v.toNat, by omega⟩, by show v = (v.toNat : Int); omega, rfl⟩
end Go.Proofs.Ytghkpmafocacoaa

namespace Go.Proofs.Ytghkpmafocacoaa
set_option maxRecDepth 100000
set_option linter.unusedVariables false
/-- Graphs of the four variables: the pairs 01 02 03 12 13 23. -/
structure Gr where
  a : Bool
  b : Bool
  c : Bool
  d : Bool
  e : Bool
  f : Bool
def Gr.nb (g : Gr) : Nat → Nat
  | 0 => 1 + 2 * g.a.toNat + 4 * g.b.toNat + 8 * g.c.toNat
  | 1 => g.a.toNat + 2 + 4 * g.d.toNat + 8 * g.e.toNat
  | 2 => g.b.toNat + 2 * g.d.toNat + 4 + 8 * g.f.toNat
  | _ => g.c.toNat + 2 * g.e.toNat + 4 * g.f.toNat + 8
def grOf (N : Nat → Nat) : Gr := ⟨(N 0).testBit 1, (N 0).testBit 2, (N 0).testBit 3, (N 1).testBit 2, (N 1).testBit 3, (N 2).testBit 3⟩
def cntN (L : Nat) : Nat := (L % 2 + L / 2 % 2) + (L / 4 % 2 + L / 8 % 2)
def Gr.w1 (g : Gr) (v : Nat) : Nat := cntN (g.nb v)
def Gr.stepJ (g : Gr) (T J : Nat) : Nat := (List.range 4).foldl (fun R u => if J.testBit u && T.testBit u then R ||| g.nb u else R) J
def Gr.cl (g : Gr) (T v : Nat) : Nat := g.stepJ T (g.stepJ T (g.stepJ T (2 ^ v)))
/-- How many variables the product has by which one is eliminated when others are gone. -/
def Gr.wP (g : Gr) (gone v : Nat) : Nat := cntN (g.cl (gone ||| 2 ^ v) v &&& (15 - gone))
def Gr.nxt (g : Gr) (least : List Nat) (gone : Nat) : Nat → Nat × Nat
  | 0 => (0, 5)
  | v + 1 => if gone.testBit v then g.nxt least gone v else if max (max (g.wP gone v) (least.getD (gone ||| 2 ^ v) 0)) (least.getD 0 0) < (g.nxt least gone v).2 then (v, max (max (g.wP gone v) (least.getD (gone ||| 2 ^ v) 0)) (least.getD 0 0)) else g.nxt least gone v
def zN (n : Nat) : List Nat := List.replicate n 0
def Gr.lst (g : Gr) : Nat → List Nat
  | 0 => zN 16
  | k + 1 => (g.lst k).set (14 - k) (g.nxt (g.lst k) (14 - k) 4).2
theorem gr_all {P : Gr → Prop} (h : ∀ a b c d e f : Bool, P ⟨a, b, c, d, e, f⟩) (g : Gr) : P g := by
  obtain ⟨a, b, c, d, e, f⟩ := g
  exact h a b c d e f
end Go.Proofs.Ytghkpmafocacoaa

namespace Go.Proofs.Ytghkpmafocacoaa
set_option maxRecDepth 100000
set_option linter.unusedVariables false
open Go.RowKit
/-- The variables next to one. -/
def Gr.nx (g : Gr) (v : Nat) : Nat := g.nb v - 2 ^ v
def Gr.put (g : Gr) (a b : Nat) : Gr := grOf fun u => g.nb u ||| ((if u = a then 2 ^ b else 0) ||| (if u = b then 2 ^ a else 0))
def Gr.none_ : Gr := ⟨false, false, false, false, false, false⟩
def Gr.root (g : Gr) (v : Nat) : Nat := ((List.range 4).find? fun u => (g.cl 15 v).testBit u).getD 0
def Gr.many (g : Gr) : Nat := (g.a.toNat + g.b.toNat + g.c.toNat) + (g.d.toNat + g.e.toNat + g.f.toNat)
/-- A graph without circles. -/
def Gr.acy (g : Gr) : Bool := g.many + ((List.range 4).filter fun v => g.root v == v).length == 4
/-- All pairs, either way round: a row of bits for each variable. -/
def Gr.prs (g : Gr) : Nat := (g.nx 0 + 16 * g.nx 1) + (256 * g.nx 2 + 4096 * g.nx 3)
def bitsN (L : Nat) : List Nat := (List.range 4).filter fun v => L.testBit v
/-- All ways from one over another end: no circle is gone round. -/
def Gr.dep (g : Gr) : Nat → Nat → Nat → Bool
  | 0, _, _ => false
  | n + 1, u, t => (bitsN (g.nx u)).all fun w => w == t || g.dep n w u
/-- The branches, as they are come to. -/
structure Brs where
  list : List (Nat × Nat)
  path : List Nat
  passed : Nat
def Gr.b0 (g : Gr) : Brs := ⟨[], (List.range 4).filter fun v => g.root v == v, 0⟩
def Gr.far (g : Gr) (s : Brs) (k : Nat) : List Nat := bitsN (g.nx (s.path.getD k 0) &&& (15 - (s.passed ||| 2 ^ s.path.getD k 0)))
def Gr.bstep (g : Gr) (s : Brs) (k : Nat) : Brs :=
  ⟨s.list ++ (g.far s k).map fun w => (s.path.getD k 0, w), s.path ++ g.far s k, s.passed ||| 2 ^ s.path.getD k 0⟩
def Gr.brs (g : Gr) : Nat → Brs
  | 0 => g.b0
  | k + 1 => g.bstep (g.brs k) k
/-- Who tells whom, one after another. -/
def Gr.tells (g : Gr) : List (Nat × Nat) := ((g.brs 4).list.reverse.map fun p => (p.2, p.1)) ++ (g.brs 4).list
/-- All that one needs is told ahead of it. -/
def Gr.tellOk (g : Gr) (k : Nat) : Bool :=
  match (g.tells)[k]? with
  | none => true
  | some (u, t) => (g.nx u).testBit t && (bitsN (g.nx u)).all fun w => w == t || (g.tells.take k).contains (w, u)
theorem put_acy (g : Gr) : ∀ a b : Fin 4, a ≠ b → g.acy = true → g.root a.val ≠ g.root b.val → (g.put a.val b.val).acy = true ∧ ∀ v : Fin 4, (g.put a.val b.val).root v.val = if g.root v.val = max (g.root a.val) (g.root b.val) then min (g.root a.val) (g.root b.val) else g.root v.val :=
  gr_all (P := fun g => ∀ a b : Fin 4, a ≠ b → g.acy = true → g.root a.val ≠ g.root b.val → (g.put a.val b.val).acy = true ∧ ∀ v : Fin 4, (g.put a.val b.val).root v.val = if g.root v.val = max (g.root a.val) (g.root b.val) then min (g.root a.val) (g.root b.val) else g.root v.val) (by decide +kernel) g
theorem put_nx (g : Gr) : ∀ a b : Fin 4, a ≠ b → ∀ v w : Fin 4, ((g.put a.val b.val).nx v.val).testBit w.val = ((g.nx v.val).testBit w.val || (decide (v = a ∧ w = b) || decide (v = b ∧ w = a))) :=
  gr_all (P := fun g => ∀ a b : Fin 4, a ≠ b → ∀ v w : Fin 4, ((g.put a.val b.val).nx v.val).testBit w.val = ((g.nx v.val).testBit w.val || (decide (v = a ∧ w = b) || decide (v = b ∧ w = a)))) (by decide +kernel) g
theorem prs_row (g : Gr) : ∀ v : Fin 4, g.prs < 65536 ∧ (g.prs / 2 ^ (4 * v.val)) % 16 = g.nx v.val ∧ g.nx v.val < 16 ∧ (g.nx v.val).testBit v.val = false ∧ ∀ w : Fin 4, (g.nx v.val).testBit w.val = (g.nx w.val).testBit v.val :=
  gr_all (P := fun g => ∀ v : Fin 4, g.prs < 65536 ∧ (g.prs / 2 ^ (4 * v.val)) % 16 = g.nx v.val ∧ g.nx v.val < 16 ∧ (g.nx v.val).testBit v.val = false ∧ ∀ w : Fin 4, (g.nx v.val).testBit w.val = (g.nx w.val).testBit v.val) (by decide +kernel) g
theorem root_le (g : Gr) : ∀ v : Fin 4, g.root v.val ≤ v.val ∧ g.root (g.root v.val) = g.root v.val :=
  gr_all (P := fun g => ∀ v : Fin 4, g.root v.val ≤ v.val ∧ g.root (g.root v.val) = g.root v.val) (by decide +kernel) g
theorem root_near (g : Gr) : ∀ v w : Fin 4, (g.nx v.val).testBit w.val = true → g.root v.val = g.root w.val :=
  gr_all (P := fun g => ∀ v w : Fin 4, (g.nx v.val).testBit w.val = true → g.root v.val = g.root w.val) (by decide +kernel) g
theorem dep_all (g : Gr) : g.acy = true → ∀ u t : Fin 4, (g.nx u.val).testBit t.val = true → g.dep 3 u.val t.val = true :=
  gr_all (P := fun g => g.acy = true → ∀ u t : Fin 4, (g.nx u.val).testBit t.val = true → g.dep 3 u.val t.val = true) (by decide +kernel) g
theorem brs_end (g : Gr) : g.acy = true → (∀ k : Fin 5, (g.brs k.val).path.length ≤ 4 ∧ (k.val < 4 → k.val < (g.brs k.val).path.length) ∧ (g.brs k.val).list.length ≤ 3) ∧ (g.brs 4).path.length = 4 :=
  gr_all (P := fun g => g.acy = true → (∀ k : Fin 5, (g.brs k.val).path.length ≤ 4 ∧ (k.val < 4 → k.val < (g.brs k.val).path.length) ∧ (g.brs k.val).list.length ≤ 3) ∧ (g.brs 4).path.length = 4) (by decide +kernel) g
theorem tells_ok (g : Gr) : g.acy = true → (∀ k : Fin 6, g.tellOk k.val = true) ∧ g.tells.length ≤ 6 ∧ ∀ u t : Fin 4, (g.nx u.val).testBit t.val = true → (u.val, t.val) ∈ g.tells :=
  gr_all (P := fun g => g.acy = true → (∀ k : Fin 6, g.tellOk k.val = true) ∧ g.tells.length ≤ 6 ∧ ∀ u t : Fin 4, (g.nx u.val).testBit t.val = true → (u.val, t.val) ∈ g.tells) (by decide +kernel) g
theorem none_ok : Gr.none_.acy = true ∧ Gr.none_.prs = 0 ∧ ∀ v : Fin 4, Gr.none_.root v.val = v.val ∧ Gr.none_.nx v.val = 0 := by decide +kernel
end Go.Proofs.Ytghkpmafocacoaa

namespace Go.Proofs.Ytghkpmafocacoaa
set_option maxRecDepth 100000
set_option linter.unusedVariables false
open Go.RowKit
/-- What the weights of a statement have in common. -/
def com (s : St) : Int := gcdF [s.u, s.v, s.x]
def setW (a : St) (u v x : Int) : St := ⟨a.k, a.a, a.b, a.c, u, v, x⟩
def scaled (a : St) : St := setW a (a.u / com a) (a.v / com a) (a.x / com a)
def folded (a b : St) : St := setW a (a.u * b.u) (a.v * b.v) (a.x * b.x)
def moved (b : St) (n : Int) : St := ⟨if b.k = 5 then 4 else 2, b.a, 0, 0, b.wgt (n % 3), b.wgt ((1 + n) % 3), b.wgt ((2 + n) % 3)⟩
/-- What stands in a window behind a change. -/
def chg (c : Int) (a : St) : Option St → List St
  | none => [scaled a]
  | some b => if c = 0 then [b, a] else if c = 1 then [folded a b] else if c = 2 then [b] else if c = 3 then [scaled a, b] else [a, moved b a.c]
end Go.Proofs.Ytghkpmafocacoaa

namespace Go.Proofs.Ytghkpmafocacoaa
set_option maxRecDepth 100000
set_option linter.unusedVariables false
open Go.RowKit
theorem fin16 {L : Int} (h : 0 ≤ L ∧ L ≤ 15) : ∃ n : Fin 16, L = (n.val : Int) := ⟨⟨L.toNat, by omega⟩, by simp; omega⟩
theorem and_all : ∀ (n : Fin 16) (k : Fin 4), (bits .and .i64 (n.val : Int) (bitN (k.val : Int)) == 0) = !tb (n.val : Int) k.val := by decide +kernel
theorem or_all : ∀ (n m : Fin 16), bits .or .i64 (n.val : Int) (m.val : Int) = bor (n.val : Int) (m.val : Int) := by decide +kernel
theorem diff_all : ∀ (n m : Fin 16), bits .andNot .i64 (n.val : Int) (m.val : Int) = bdf (n.val : Int) (m.val : Int) := by decide +kernel
theorem bits_and {L : Int} (h : 0 ≤ L ∧ L ≤ 15) {k : Nat} (hk : k ≤ 3) : (bits .and .i64 L (bitN (k : Int)) == 0) = !tb L k := by
  obtain ⟨n, rfl⟩ := fin16 h
  exact and_all n ⟨k, by omega⟩
theorem bits_or {a b : Int} (ha : 0 ≤ a ∧ a ≤ 15) (hb : 0 ≤ b ∧ b ≤ 15) : bits .or .i64 a b = bor a b := by
  obtain ⟨n, rfl⟩ := fin16 ha
  obtain ⟨m, rfl⟩ := fin16 hb
  exact or_all n m
theorem bits_diff {a b : Int} (ha : 0 ≤ a ∧ a ≤ 15) (hb : 0 ≤ b ∧ b ≤ 15) : bits .andNot .i64 a b = bdf a b := by
  obtain ⟨n, rfl⟩ := fin16 ha
  obtain ⟨m, rfl⟩ := fin16 hb
  exact diff_all n m
end Go.Proofs.Ytghkpmafocacoaa
namespace Go.Proofs.Ytghkpmafocacoaa
set_option maxRecDepth 100000
set_option linter.unusedVariables false
open Go.RowKit
def St.weighs (s : St) : Bool := s.k == 4 || s.k == 5
theorem bitN_le (n : Int) : 0 ≤ bitN n ∧ bitN n ≤ 15 := by have := bitN_bd n; omega
theorem bs6 {a w : World} {R : Prop} (h : Below a.heap.size a w ∧ R) : Below a.heap.size a w := h.1
theorem bd6 {a w : World} {R : Prop} (h : Below a.heap.size a w ∧ R) : Below a.heap.size a w.drew := h.1.drew
theorem bt6 {a w q : World} {R : Prop} (h : Below a.heap.size a w ∧ R) (hq : Below w.heap.size w q) : Below a.heap.size a q := h.1.trans (hq.mono h.1.size)
end Go.Proofs.Ytghkpmafocacoaa
namespace Go.Proofs.Ytghkpmafocacoaa
set_option maxRecDepth 100000
set_option linter.unusedVariables false
open Go.RowKit
/-- The numbers from place k on lie in a row of cells. -/
def LFill (cs : Array Value) (lv : Nat → Int) (m k : Nat) : Prop := cs.size = m + 1 ∧ ∀ j, k ≤ j → j ≤ m → cs[j]? = some (.int .i64 (lv j))
theorem LFill.step {cs : Array Value} {lv : Nat → Int} {m k : Nat} {x : Int} (h : LFill cs lv m (k + 1)) (hk : k ≤ m) (hx : x = lv k) : LFill (cs.setIfInBounds k (.int .i64 x)) lv m k := by
  refine ⟨by simpa using h.1, fun j h1 h2 => ?_⟩
  by_cases hjk : j = k
  · subst hjk
    rw [Array.getElem?_setIfInBounds, if_pos rfl, if_pos (by rw [h.1]; omega), hx]
  · rw [Array.getElem?_setIfInBounds, if_neg (by omega)]
    exact h.2 j (by omega) h2
end Go.Proofs.Ytghkpmafocacoaa

namespace Go.Proofs.Ytghkpmafocacoaa
set_option maxRecDepth 100000
open Go.RowKit
/-- Bytes that can be read, below block B. -/
def Byt (w : World) (B : Nat) (A : Option Addr) (n : Nat) : Prop :=
  0 < n → ∃ g off, A = some ⟨g, off, none⟩ ∧ g < B ∧ ∀ i, i < n → ∃ z : Int, w.cell? ⟨g, off + i, none⟩ = some (.int .u8 z) ∧ 0 ≤ z ∧ z ≤ 255
/-- A reader: a block of its own, from B on, that holds the bytes' slice and how many numbers have been drawn. -/
def Rdr (w : World) (B R : Nat) (A : Option Addr) (n c p : Nat) : Prop :=
  Has w R 129 #[.slice A n c, .int .i64 p] ∧ B ≤ R ∧ Byt w B A n
/-- Only block R has turned. -/
def Chg (w w' : World) (R : Nat) : Prop := w.grownBy w' (some R)
theorem Chg.refl (w : World) (R : Nat) : Chg w w R := World.grownBy.refl w _
theorem Chg.trans {a b c : World} {R : Nat} (h : Chg a b R) (k : Chg b c R) : Chg a c R :=
  ⟨k.os.trans h.os, k.tape.trans h.tape, k.output.trans h.output, Nat.le_trans h.size k.size, fun i hi hne => (k.block i (Nat.lt_of_lt_of_le hi h.size) hne).trans (h.block i hi hne)⟩
theorem Chg.drewN {a b : World} {R : Nat} (h : Chg a b R) (n : Nat) : Chg a (b.drewN n) R := ⟨h.os, h.tape, h.output, h.size, h.block⟩
theorem Chg.put {a b : World} {R : Nat} (h : Chg a b R) (o : Nat) (u : Value) : Chg a (b.setCell ⟨R, o, none⟩ u) R :=
  ⟨h.os, h.tape, h.output, by simpa [World.setCell] using h.size, fun i hi hne => (Below.heap_setCell b _ u i (by rintro rfl; exact hne rfl)).trans (h.block i hi hne)⟩
theorem Chg.alloc {a b : World} {R : Nat} (h : Chg a b R) (o : Obj) : Chg a (b.alloc o) R :=
  ⟨h.os, h.tape, h.output, Nat.le_trans h.size (by simp), fun i hi hne => (Below.heap_alloc b o i (Nat.lt_of_lt_of_le hi h.size)).trans (h.block i hi hne)⟩
theorem Chg.new {a b : World} {R : Nat} (h : Chg a b R) {q : Addr} (hq : a.heap.size ≤ q.block) (u : Value) : Chg a (b.setCell q u) R :=
  ⟨h.os, h.tape, h.output, by simpa [World.setCell] using h.size, fun i hi hne => (Below.heap_setCell b _ u i (by rintro rfl; omega)).trans (h.block i hi hne)⟩
theorem Chg.below {a b : World} {R B : Nat} (h : Chg a b R) (hB : B ≤ R) (hs : B ≤ a.heap.size) : Below B a b :=
  ⟨h.os, h.tape, h.output, h.size, fun i hi => h.block i (by omega) (fun e => by injection e with e; omega)⟩
theorem Has.chg {a b : World} {R g : Nat} {t : TypeId} {cs : Array Value} (h : Has a g t cs) (hc : Chg a b R) (hne : g ≠ R) : Has b g t cs :=
  (hc.block g h.lt (fun e => by injection e with e; exact hne e)).trans h
theorem Byt.keep {w w' : World} {B : Nat} {A : Option Addr} {n : Nat} (h : Byt w B A n) (hb : Below B w w') : Byt w' B A n := fun hn => by
  obtain ⟨g, off, e, hg, hc⟩ := h hn
  refine ⟨g, off, e, hg, fun i hi => ?_⟩
  obtain ⟨z, hz, h1, h2⟩ := hc i hi
  exact ⟨z, (hb.cell (p := ⟨g, off + i, none⟩) hg).trans hz, h1, h2⟩
theorem ofInt_i64 (a : Nat) (ha : a < 9223372036854775808) : (BitVec.ofInt 64 (a : Int)).toNat = a := by
  rw [BitVec.ofInt_natCast, BitVec.toNat_ofNat]; exact Nat.mod_eq_of_lt (by omega)
theorem xor_nat (a b : Nat) (ha : a < 4611686018427387904) (hb : b < 4611686018427387904) : bits .xor .i64 (a : Int) (b : Int) = ((a ^^^ b : Nat) : Int) := by
  have hx : a ^^^ b < 2 ^ 62 := Nat.xor_lt_two_pow (by omega) (by omega)
  show IntKind.i64.wrap ((BitVec.ofInt 64 (a : Int) ^^^ BitVec.ofInt 64 (b : Int)).toNat : Int) = _
  rw [BitVec.toNat_xor, ofInt_i64 a (by omega), ofInt_i64 b (by omega), IntKind.wrap_i64]
  omega
theorem xor_bd {a b : Int} (h0 : 0 ≤ a) (h1 : a < 4611686018427387904) (h2 : 0 ≤ b) (h3 : b < 4611686018427387904) : 0 ≤ bits .xor .i64 a b := by
  obtain ⟨x, rfl⟩ := Int.eq_ofNat_of_zero_le h0
  obtain ⟨y, rfl⟩ := Int.eq_ofNat_of_zero_le h2
  have := xor_nat x y (by omega) (by omega)
  omega
/-- How pick ends. -/
def Picked (w : World) (B R : Nat) (A : Option Addr) (n c p : Nat) (m : Int) (e : Ending) (w' : World) : Prop :=
  ∃ v : Int, e = .returned (.int .i64 v) ∧ 0 ≤ v ∧ v < m ∧ Rdr w' B R A n c (p + 1) ∧ Chg w w' R
set_option maxRecDepth 100000 in
set_option maxHeartbeats 1000000 in
theorem pick_any (R : Nat) (A : Option Addr) (n c p B : Nat) (m : Int) (w : World) (h : Rdr w B R A n c p) (hp : p ≤ 1000000) (hn : n ≤ 2000) (hm : 1 ≤ m) :
    Calls Try.prog 87 #[.pointer (some ⟨R, 0, none⟩), .int .i64 m] w (Picked w B R A n c p m) := by
  obtain ⟨hh, hBR, hby⟩ := h
  have hc := hh.cell
  have hfz := hh.frozen
  have hput := hh.put 1 (.int .i64 ((p + 1 : Nat) : Int))
  have hrd : Rdr (w.setCell ⟨R, 1, none⟩ (.int .i64 ((p + 1 : Nat) : Int))) B R A n c (p + 1) :=
    ⟨hput, hBR, hby.keep ((Below.refl _ _).setCell hBR _)⟩
  have hchg : Chg w (w.setCell ⟨R, 1, none⟩ (.int .i64 ((p + 1 : Nat) : Int))) R := (Chg.refl w R).put 1 _
  have hRd := Lib.hid hrd
  have hCh := Lib.hid hchg
  clear hput hrd hchg
  by_cases hn0 : n = 0
  · subst hn0
    clear hby
    go_enter Try.func87, Try.ntmps87
    go_wp2
    go_ret
    exact ⟨0, rfl, by omega, by omega, hRd.out, hCh.out⟩
  · obtain ⟨g, off, rfl, hg, hcell⟩ := hby (by omega)
    have hHC := Lib.hid hcell
    clear hcell
    have hm1 : decide (m < 1) = false := by simp; omega
    have hn1 : ((n : Int) == 0) = false := by simp; omega
    by_cases hpn : p < n
    · obtain ⟨z, hz, hz0, hz1⟩ := hHC.out p hpn
      have hm0 : 0 ≤ z % m ∧ z % m < m := ⟨Int.emod_nonneg _ (by omega), Int.emod_lt_of_pos _ (by omega)⟩
      have hM := Lib.hid hm0
      clear hm0
      go_enter Try.func87, Try.ntmps87
      go_wp2
      go_ret
      exact ⟨_, rfl, hM.out.1, hM.out.2, hRd.out, hCh.out⟩
    · have hi1 : p % n < n := Nat.mod_lt _ (by omega)
      have hi2 : (p * 7 + 3) % n < n := Nat.mod_lt _ (by omega)
      obtain ⟨z, hz, hz0, hz1⟩ := hHC.out _ hi1
      obtain ⟨y, hy, hy0, hy1⟩ := hHC.out _ hi2
      have hj1 : (0 : Int) ≤ (p : Int) % (n : Int) := Int.emod_nonneg _ (by omega)
      have hj2 : (p : Int) % (n : Int) < (n : Int) := Int.emod_lt_of_pos _ (by omega)
      have hj3 : (0 : Int) ≤ ((p : Int) * 7 + 3) % (n : Int) := Int.emod_nonneg _ (by omega)
      have hj4 : ((p : Int) * 7 + 3) % (n : Int) < (n : Int) := Int.emod_lt_of_pos _ (by omega)
      have hq1 : (0 : Int) ≤ (p : Int) / (n : Int) := Int.ediv_nonneg (by omega) (by omega)
      have hq2 : (p : Int) / (n : Int) ≤ 1000000 := Int.le_trans (Int.ediv_le_self _ (by omega)) (by omega)
      have hx : 0 ≤ bits .xor .i64 (z * 131 + y * 1117 + (p : Int) * 29 + (p : Int) / (n : Int) * 53) ((z * 131 + y * 1117 + (p : Int) * 29 + (p : Int) / (n : Int) * 53) / 64) := xor_bd (by omega) (by omega) (by omega) (by omega)
      go_enter Try.func87, Try.ntmps87
      go_wp2
      go_quiet (fail)
      go_wp2
      go_ret
      exact ⟨_, rfl, Int.emod_nonneg _ (by omega), Int.emod_lt_of_pos _ (by omega), ⟨hRd.out.1, hRd.out.2.1, hRd.out.2.2⟩, hCh.out.drewN _⟩
theorem Rdr.alloc {w : World} {B R : Nat} {A : Option Addr} {n c p : Nat} (h : Rdr w B R A n c p) (hB : B ≤ w.heap.size) (o : Obj) : Rdr (w.alloc o) B R A n c p :=
  ⟨h.1.alloc o, h.2.1, h.2.2.keep ((Below.refl _ _).alloc hB o)⟩
theorem Rdr.new {w : World} {B R : Nat} {A : Option Addr} {n c p : Nat} (h : Rdr w B R A n c p) {q : Addr} (hq : B ≤ q.block) (hR : R ≠ q.block) (u : Value) : Rdr (w.setCell q u) B R A n c p :=
  ⟨h.1.far hR u, h.2.1, h.2.2.keep ((Below.refl _ _).setCell hq u)⟩
theorem Rdr.drewN {w : World} {B R : Nat} {A : Option Addr} {n c p : Nat} (h : Rdr w B R A n c p) (k : Nat) : Rdr (w.drewN k) B R A n c p := ⟨h.1, h.2.1, h.2.2⟩
theorem Rdr.lt {w : World} {B R : Nat} {A : Option Addr} {n c p : Nat} (h : Rdr w B R A n c p) : R < w.heap.size := h.1.lt
/-- Numbers in a block, each of which has a property. -/
def Nums (w : World) (g L : Nat) (P : Int → Prop) : Prop := ∀ i, i < L → ∃ v, w.cell? ⟨g, i, none⟩ = some (.int .i64 v) ∧ P v
def Numd (w : World) (B R : Nat) (A : Option Addr) (n c p : Nat) (P : Int → Prop) (e : Ending) (w' : World) : Prop :=
  ∃ v : Int, e = .returned (.int .i64 v) ∧ P v ∧ Rdr w' B R A n c (p + 1) ∧ Chg w w' R
theorem num_any (R : Nat) (A : Option Addr) (n c p B g L cap : Nat) (P : Int → Prop) (w : World) (h : Rdr w B R A n c p) (hp : p ≤ 1000000) (hn : n ≤ 2000) (hL : 1 ≤ L) (hL2 : L ≤ 1000) (hg : g < w.heap.size) (hgR : g ≠ R) (hN : Nums w g L P) :
    Calls Try.prog 146 #[.pointer (some ⟨R, 0, none⟩), .slice (some ⟨g, 0, none⟩) L cap] w (Numd w B R A n c p P) := by
  have hNN := Lib.hid hN
  clear hN
  go_enter Try.func146, Try.ntmps146
  go_wp2_with fail
  refine (pick_any R A n c p B _ _ h hp hn (by omega)).mono ?_
  rintro e w1 ⟨v, rfl, hv0, hv1, hr, hc⟩
  obtain ⟨k, rfl⟩ := Int.eq_ofNat_of_zero_le hv0
  obtain ⟨x, hx, hP⟩ := hNN.out k (by omega)
  have hx1 : w1.cell? ⟨g, k, none⟩ = some (.int .i64 x) := (World.cell?_of_block (a := ⟨g, k, none⟩) (hc.block g hg (fun e => hgR (by injection e)))).trans hx
  have hPP := Lib.hid hP
  clear hx hP
  go_wp2
  go_ret
  exact ⟨x, rfl, hPP.out, hr, hc⟩
theorem l40Open_any (A : Option Addr) (n c : Nat) (w : World) (h : Byt w w.heap.size A n) (hn : n ≤ c) (hc : c ≤ maxLen) :
    Calls Try.prog 84 #[.slice A n c] w fun e w' => e = .returned (.pointer (some ⟨w.heap.size, 0, none⟩)) ∧ (∃ n', n' ≤ 2000 ∧ Rdr w' w.heap.size w.heap.size A n' c 0) ∧ Below w.heap.size w w' := by
  unfold maxLen at hc
  by_cases hb : 2000 < n
  · have hr : ∀ o, o = .cells #[.slice A 2000 c, .int .i64 0] 129 → Rdr (w.alloc o) w.heap.size w.heap.size A 2000 c 0 := by
      rintro o rfl
      refine ⟨Has.new w _ _, Nat.le_refl _, Byt.keep (fun h0 => ?_) ((Below.refl _ _).alloc (Nat.le_refl _) _)⟩
      obtain ⟨g, off, e, hg, hx⟩ := h (by omega)
      exact ⟨g, off, e, hg, fun i hi => hx i (by omega)⟩
    have hR := Lib.hid hr
    clear hr h
    go_enter Try.func84, Try.ntmps84
    go_wp2
    go_ret
    exact ⟨rfl, ⟨2000, by omega, hR.out _ rfl⟩, (Below.refl _ _).alloc (Nat.le_refl _) _⟩
  · have hr : ∀ o, o = .cells #[.slice A n c, .int .i64 0] 129 → Rdr (w.alloc o) w.heap.size w.heap.size A n c 0 := by
      rintro o rfl
      exact ⟨Has.new w _ _, Nat.le_refl _, h.keep ((Below.refl _ _).alloc (Nat.le_refl _) _)⟩
    have hR := Lib.hid hr
    clear hr h
    go_enter Try.func84, Try.ntmps84
    go_wp2
    go_ret
    exact ⟨rfl, ⟨n, by omega, hR.out _ rfl⟩, (Below.refl _ _).alloc (Nat.le_refl _) _⟩
end Go.Proofs.Ytghkpmafocacoaa
namespace Go.Proofs.Ytghkpmafocacoaa
set_option maxRecDepth 100000
open Go.RowKit
theorem Nums.of {w : World} {g L : Nat} {t : TypeId} {cs : Array Value} {P : Int → Prop} (h : Has w g t cs) (hP : ∀ i, i < L → ∃ v, cs[i]? = some (.int .i64 v) ∧ P v) : Nums w g L P := fun i hi => by
  obtain ⟨v, hv, hp⟩ := hP i hi
  exact ⟨v, (h.cell i).trans hv, hp⟩
end Go.Proofs.Ytghkpmafocacoaa

namespace Go.Proofs.Ytghkpmafocacoaa
set_option maxRecDepth 100000
set_option linter.unusedVariables false
open Go.RowKit
/-- The first k values' bytes lie in a row of cells. -/
def BFill (cs : Array Value) (ds : List Int) (n k : Nat) : Prop := cs.size = n ∧ ∀ i d, i < k → ds[i]? = some d → cs[i]? = some (.int .u8 (48 + d))
theorem BFill.step {cs : Array Value} {ds : List Int} {n k : Nat} {d : Int} (h : BFill cs ds n k) (hd : ds[k]? = some d) (hk : k < n) : BFill (cs.setIfInBounds k (.int .u8 (48 + d))) ds n (k + 1) := by
  refine ⟨by simpa using h.1, fun i e hi he => ?_⟩
  by_cases hik : i = k
  · subst hik
    obtain rfl : d = e := Option.some.inj (hd.symm.trans he)
    have := h.1
    rw [Array.getElem?_setIfInBounds, if_pos rfl, if_pos (by omega)]
  · rw [Array.getElem?_setIfInBounds, if_neg (by omega)]
    exact h.2 i e (by omega) he
end Go.Proofs.Ytghkpmafocacoaa
namespace Go.Proofs.Ytghkpmafocacoaa
set_option maxRecDepth 100000
set_option linter.unusedVariables false
open Go.RowKit
end Go.Proofs.Ytghkpmafocacoaa
namespace Go.Proofs.Ytghkpmafocacoaa
set_option maxRecDepth 100000
set_option linter.unusedVariables false
end Go.Proofs.Ytghkpmafocacoaa

namespace Go.Proofs.Ytghkpmafocacoaa
set_option maxRecDepth 100000
set_option linter.unusedVariables false
open Go.RowKit
/-- What holds of a tracer's row, stack and run. -/
structure Inv (os : List St) (row : List Int) (stk : List Rn) (now : Rn) : Prop where
  len : row.length = stk.length
  fit : now.fit
  val : ∀ d ∈ row, 0 ≤ d ∧ d ≤ 2
  at_ : ∀ (j : Nat) (r : Rn), stk[j]? = some r → r.fit ∧ r.wt ≠ 0 ∧ j ≤ r.pos ∧ ∃ s, os[r.pos]? = some s ∧ s.draws = true ∧ s.ok = true
  pos : row.length ≤ now.pos
theorem step_pos (s : St) (r : Rn) (x : Int) : r.pos + 1 ≤ (Rn.step s r x).pos := by
  show r.pos + 1 ≤ r.pos + 1 + s.jump r.st
  omega
theorem Inv.own {os : List St} {row : List Int} {stk : List Rn} {now : Rn} {s : St} (h : Inv os row stk now) (hok : s.ok = true) : Inv os row stk (Rn.step s now 0) :=
  ⟨h.len, h.fit.step hok (by decide), h.val, h.at_, Nat.le_trans h.pos (by have := step_pos s now 0; omega)⟩
theorem Inv.draw {os : List St} {row : List Int} {stk : List Rn} {now : Rn} {s : St} (h : Inv os row stk now) (hs : os[now.pos]? = some s) (hok : s.ok = true) (hd : s.draws = true) (hw : now.wt ≠ 0) : Inv os (row ++ [0]) (stk ++ [now]) (Rn.step s now 0) := by
  refine ⟨by simp [h.len], h.fit.step hok (by decide), fun d hd' => ?_, fun j r hr => ?_, ?_⟩
  · rcases List.mem_append.1 hd' with hd' | hd'
    · exact h.val d hd'
    · rw [List.mem_singleton] at hd'
      subst hd'
      decide
  · by_cases hj : j < stk.length
    · rw [List.getElem?_append_left hj] at hr
      exact h.at_ j r hr
    · rw [List.getElem?_append_right (by omega)] at hr
      have hj0 : j - stk.length = 0 := by
        have := (List.getElem?_eq_some_iff.1 hr).1
        simp at this; omega
      rw [hj0] at hr
      have hr' : now = r := by simpa using hr
      subst hr'
      refine ⟨h.fit, hw, ?_, s, hs, hd, hok⟩
      have := h.pos
      have := h.len
      omega
  · have h1 := step_pos s now 0
    have h2 := h.pos
    rw [List.length_append, List.length_singleton]
    omega
theorem Inv.up {os : List St} {row : List Int} {stk : List Rn} {now r : Rn} {s : St} {j : Nat} {d : Int} (h : Inv os row stk now) (hd : row[j]? = some d) (hd1 : d ≤ 1) (hr : stk[j]? = some r) (hs : os[r.pos]? = some s) :
    Inv os (row.take j ++ [d + 1]) (stk.take (j + 1)) (Rn.step s r (d + 1)) := by
  have hl := (List.getElem?_eq_some_iff.1 hd).1
  have hl2 := (List.getElem?_eq_some_iff.1 hr).1
  obtain ⟨hf, hw, hp, s', hs', hdr, hok⟩ := h.at_ j r hr
  obtain rfl : s' = s := Option.some.inj (hs'.symm.trans hs)
  have hdv := h.val d (List.mem_of_getElem? hd)
  refine ⟨by simp; omega, hf.step hok (by omega), fun x hx => ?_, fun i q hq => ?_, ?_⟩
  · rcases List.mem_append.1 hx with hx | hx
    · exact h.val x (List.mem_of_mem_take hx)
    · rw [List.mem_singleton] at hx
      subst hx
      omega
  · rw [List.getElem?_take] at hq
    split at hq
    · exact h.at_ i q hq
    · cases hq
  · have h1 := step_pos s' r (d + 1)
    rw [List.length_append, List.length_singleton, List.length_take]
    omega
/-- The cells of runs, one behind the other. -/
def Rn.cells (r : Rn) : List Value := [.int .i64 r.pos, .int .i64 r.st, .int .i64 r.wt]
/-- The blocks that a tracer may turn. -/
def TrB (g : Nat) (vr vs : Value) (i : Nat) : Prop := i = g ∨ vr.ownBlock = some i ∨ vs.ownBlock = some i
/-- How a step of a tracer leaves memory. -/
def Trd (w w' : World) (g : Nat) (vr vs vr' vs' : Value) : Prop :=
  KeptBut w w' (TrB g vr vs) ∧ (∀ k, vr'.ownBlock = some k → vr.ownBlock = some k ∨ w.heap.size ≤ k) ∧ (∀ k, vs'.ownBlock = some k → vs.ownBlock = some k ∨ w.heap.size ≤ k)
theorem Trd.trans {a b c : World} {g : Nat} {vr vs vr' vs' vr2 vs2 : Value} (h : Trd a b g vr vs vr' vs') (k : Trd b c g vr' vs' vr2 vs2) : Trd a c g vr vs vr2 vs2 := by
  have hz := h.1.size
  refine ⟨KeptBut.trans h.1 k.1 (fun i hi e => ?_), fun i hi => ?_, fun i hi => ?_⟩
  · rcases e with e | e | e
    · exact .inl e
    · rcases h.2.1 i e with e' | e'
      · exact .inr (.inl e')
      · omega
    · rcases h.2.2 i e with e' | e'
      · exact .inr (.inr e')
      · omega
  · rcases k.2.1 i hi with e | e
    · exact h.2.1 i e
    · exact .inr (by omega)
  · rcases k.2.2 i hi with e | e
    · exact h.2.2 i e
    · exact .inr (by omega)
end Go.Proofs.Ytghkpmafocacoaa
namespace Go.Proofs.Ytghkpmafocacoaa
set_option maxRecDepth 100000
set_option linter.unusedVariables false
open Go.RowKit
theorem Trd.below {w0 w w' : World} {g : Nat} {vr0 vs0 vr vs : Value} (h : Trd w0 w g vr0 vs0 vr vs) (hb : Below w.heap.size w w') : Trd w0 w' g vr0 vs0 vr vs :=
  ⟨KeptBut.trans h.1 (KeptBut.of_below hb (fun _ => False)) (fun _ _ e => e.elim), h.2.1, h.2.2⟩
theorem Trd.put {w0 w : World} {g : Nat} {vr0 vs0 vr vs : Value} (h : Trd w0 w g vr0 vs0 vr vs) (i : Nat) (u : Value) : Trd w0 (w.setCell ⟨g, i, none⟩ u) g vr0 vs0 vr vs :=
  ⟨h.1.put (fun _ => .inl rfl) u, h.2.1, h.2.2⟩
/-- Behind an append: all but the slice's own block is as it was. -/
theorem grown_but {w w' : World} {o : Obj} {row : Option Nat} (h : (w.alloc o).grownBy w' row) : KeptBut w w' (fun i => row = some i) :=
  KeptBut.trans (KeptBut.alloc (KeptBut.refl w (fun i => row = some i)) o) ⟨h.os, h.tape, h.output, h.size, fun i hi hn => h.block i hi (fun e => hn e.symm)⟩ (fun _ _ e => e)
theorem owns_open {w : World} {base size n c : Nat} {e : TypeId} {A : Option Addr} {xs : List Value} (h : w.ownsRow base e size (.slice A n c) n xs) (hn : 0 < n) :
    ∃ b cur, A = some ⟨b, 0, none⟩ ∧ base ≤ b ∧ Has w b e cur ∧ n ≤ c ∧ c ≤ maxLen ∧ n * size ≤ cur.size ∧ ∀ i, i < n * size → w.cell? ⟨b, i, none⟩ = xs[i]? := by
  rcases h.2 with ⟨hv, h0⟩ | ⟨b, cap, cur, hv, hg, hh, h1, h2, h3, h4⟩
  · omega
  · injection hv with e1 _ e3
    subst e1 e3
    have hcs : n * size ≤ cur.size := by rw [h3]; exact Nat.mul_le_mul_right _ h1
    refine ⟨b, cur, rfl, hg, hh, h1, h2, hcs, fun i hi => ?_⟩
    rw [cell_of_row w b i cur e (0, 0) hh, ← h4, List.getElem?_take, if_pos hi]
    simp
theorem owns_set {w : World} {base n c b j : Nat} {ds : List Int} {x : Int} (h : w.ownsRow base 3 1 (.slice (some ⟨b, 0, none⟩) n c) n (ints ds)) (hj : j < n) : (w.setCell ⟨b, j, none⟩ (.int .i64 x)).ownsRow base 3 1 (.slice (some ⟨b, 0, none⟩) n c) n (ints (ds.set j x)) := by
  have hl : ds.length = n := by have := h.1; rw [ints_length] at this; omega
  refine ⟨by rw [ints_length, List.length_set]; omega, ?_⟩
  rcases h.2 with ⟨hv, h0'⟩ | ⟨b', cap, cur, hv, hg, hh, h1, h2, h3, h4⟩
  · omega
  · injection hv with e1 _ e3
    injection e1 with e1
    injection e1 with e1 _ _
    subst e1 e3
    refine .inr ⟨b, c, cur.setIfInBounds j (.int .i64 x), rfl, hg, Has.put (t := 3) hh j _, h1, h2, by simpa using h3, ?_⟩
    rw [Array.toList_setIfInBounds, List.take_set, h4]
    unfold ints
    rw [List.map_set]
theorem take_set (ds : List Int) (j : Nat) (x : Int) (hj : j < ds.length) : (ds.take (j + 1)).set j x = ds.take j ++ [x] := by
  rw [List.take_succ_eq_append_getElem hj, List.set_append_right _ _ (by rw [List.length_take]; omega)]
  rw [List.length_take, Nat.min_eq_left (by omega), Nat.sub_self]
  rfl
end Go.Proofs.Ytghkpmafocacoaa
