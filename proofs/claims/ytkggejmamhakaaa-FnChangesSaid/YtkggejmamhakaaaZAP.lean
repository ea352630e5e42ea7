/- Parts of the proof: Sm, Ag, An. -/
import Derived.Deep.AppendLies
import Derived.Deep.LoopGhost
import Derived.Test.YtkggejmamhakaaaZAJ
import Derived.Test.YtkggejmamhakaaaZAA
namespace Go.Proofs.Ytkggejmamhakaaa
set_option maxRecDepth 100000
set_option linter.unusedVariables false
open Go.RowKit
theorem new_one (w : World) (x : Value) (t : TypeId) : ∀ j u, [x][j]? = some u → (w.alloc (.cells #[x] t)).cell? ((⟨w.heap.size, 0, none⟩ : Addr).add j) = some u := by
  intro j u hu
  have hj : j = 0 := by
    have := (List.getElem?_eq_some_iff.1 hu).1
    simp at this; exact this
  subst hj
  have hu' : x = u := by simpa using hu
  subst hu'
  have h := (Has.new w t #[x]).cell 0
  simp [Addr.add] at h ⊢
/-- How weights are told. -/
def Wtsd (w : World) (os : List Int) (e : Ending) (w' : World) : Prop := ∃ v, e = .returned v ∧ IOwn w' w.heap.size v os ∧ Below w.heap.size w w'
/-- What a row is worth, its first entry being of state k. -/
def rsum (v : Int → Int) : List Int → Nat → Int
  | [], _ => 0
  | u :: r, k => u * v k + rsum v r (k + 1)
theorem rsum_set (v : Int → Int) : ∀ (r : List Int) (z k : Nat) (x : Int), z < r.length → rsum v (r.set z (r.getD z 0 + x)) k = rsum v r k + x * v ((k + z : Nat) : Int)
  | [], z, k, x, h => by simp at h
  | u :: r, 0, k, x, h => by
    show (u + x) * v k + rsum v r (k + 1) = u * v k + rsum v r (k + 1) + x * v ((k : Nat) : Int)
    rw [Int.add_mul]; omega
  | u :: r, z + 1, k, x, h => by
    have ih := rsum_set v r z (k + 1) x (by simpa using h)
    show u * v k + rsum v (r.set z (r.getD z 0 + x)) (k + 1) = u * v k + rsum v r (k + 1) + x * v ((k + (z + 1) : Nat) : Int)
    rw [ih, show k + 1 + z = k + (z + 1) by omega]; omega
theorem rsum_nonneg {v : Int → Int} (hv : ∀ k, 0 ≤ v k) : ∀ {r : List Int} (k : Nat), (∀ x ∈ r, 0 ≤ x) → 0 ≤ rsum v r k
  | [], _, _ => by simp [rsum]
  | u :: r, k, h => by
    have h1 := Int.mul_nonneg (h u List.mem_cons_self) (hv k)
    have h2 := rsum_nonneg hv (k + 1) (fun x hx => h x (List.mem_cons_of_mem _ hx))
    rw [rsum]; omega
theorem rsum_ge {v : Int → Int} (hv : ∀ k, 1 ≤ v k) : ∀ {r : List Int} (k : Nat), (∀ x ∈ r, 0 ≤ x) → ∀ x ∈ r, x ≤ rsum v r k
  | [], _, _, x, hx => by simp at hx
  | u :: r, k, h, x, hx => by
    have h1 : u * 1 ≤ u * v k := Int.mul_le_mul_of_nonneg_left (hv k) (h u List.mem_cons_self)
    have h2 := rsum_nonneg (fun k => Int.le_trans (by decide) (hv k)) (k + 1) (fun x hx => h x (List.mem_cons_of_mem _ hx))
    have h0 := h u List.mem_cons_self
    rw [rsum]
    rcases List.mem_cons.1 hx with rfl | hx
    · omega
    · have := rsum_ge hv (k + 1) (fun x hx => h x (List.mem_cons_of_mem _ hx)) x hx
      omega
def zs (n : Nat) : List Int := List.replicate n 0
def isum : List Int → Int
  | [] => 0
  | u :: r => u + isum r
theorem isum_append : ∀ (a b : List Int), isum (a ++ b) = isum a + isum b
  | [], b => by simp [isum]
  | u :: r, b => by rw [List.cons_append, isum, isum, isum_append r b]; omega
theorem isum_take {ds : List Int} {k : Nat} {d : Int} (h : ds[k]? = some d) : isum (ds.take (k + 1)) = isum (ds.take k) + d := by
  obtain ⟨hl, he⟩ := List.getElem?_eq_some_iff.1 h
  rw [List.take_succ_eq_append_getElem hl, isum_append, he]
  simp [isum]
theorem isum_nonneg : ∀ {ds : List Int}, (∀ x ∈ ds, 0 ≤ x) → 0 ≤ isum ds
  | [], _ => by simp [isum]
  | u :: r, h => by
    have h1 := h u List.mem_cons_self
    have h2 := isum_nonneg (fun x hx => h x (List.mem_cons_of_mem u hx))
    rw [isum]; omega
theorem isum_le {ds : List Int} (h : ∀ x ∈ ds, 0 ≤ x) (k : Nat) : 0 ≤ isum (ds.take k) ∧ isum (ds.take k) ≤ isum ds := by
  have h1 := isum_nonneg (ds := ds.take k) (fun x hx => h x (List.mem_of_mem_take hx))
  have h2 := isum_nonneg (ds := ds.drop k) (fun x hx => h x (List.mem_of_mem_drop hx))
  have h3 := isum_append (ds.take k) (ds.drop k)
  rw [List.take_append_drop] at h3
  omega
end Go.Proofs.Ytkggejmamhakaaa

namespace Go.Proofs.Ytkggejmamhakaaa
set_option maxRecDepth 100000
set_option linter.unusedVariables false
open Go.RowKit
/-- The greatest number that divides both. -/
def gcdI (a b : Int) : Int := (Nat.gcd a.toNat b.toNat : Nat)
theorem gcdI_zero {a : Int} (h : 0 ≤ a) : gcdI a 0 = a := by
  unfold gcdI
  rw [show (0 : Int).toNat = 0 from rfl, Nat.gcd_zero_right]
  omega
theorem gcdI_step {a b : Int} (ha : 0 ≤ a) (hb : 0 < b) : gcdI b (a % b) = gcdI a b := by
  obtain ⟨x, rfl⟩ := Int.eq_ofNat_of_zero_le ha
  obtain ⟨y, rfl⟩ := Int.eq_ofNat_of_zero_le (Int.le_of_lt hb)
  unfold gcdI
  rw [← Int.natCast_emod, Int.toNat_natCast, Int.toNat_natCast, Int.toNat_natCast, Nat.gcd_comm x y, Nat.gcd_rec y x, Nat.gcd_comm]
theorem gcdI_bd {a b M : Int} (ha : 0 ≤ a ∧ a ≤ M) (hb : 0 ≤ b ∧ b ≤ M) : 0 ≤ gcdI a b ∧ gcdI a b ≤ M := by
  unfold gcdI
  refine ⟨Int.natCast_nonneg _, ?_⟩
  rcases Nat.eq_zero_or_pos b.toNat with h | h
  · rw [h, Nat.gcd_zero_right]; omega
  · have := Nat.gcd_le_right a.toNat h
    omega
theorem gcdI_dvd {a b : Int} (ha : 0 ≤ a) (hb : 0 ≤ b) : gcdI a b ∣ a ∧ gcdI a b ∣ b := by
  unfold gcdI
  have h1 := Nat.gcd_dvd_left a.toNat b.toNat
  have h2 := Nat.gcd_dvd_right a.toNat b.toNat
  have e1 : ((a.toNat : Nat) : Int) = a := Int.toNat_of_nonneg ha
  have e2 : ((b.toNat : Nat) : Int) = b := Int.toNat_of_nonneg hb
  constructor
  · have := Int.natCast_dvd_natCast.2 h1
    rwa [e1] at this
  · have := Int.natCast_dvd_natCast.2 h2
    rwa [e2] at this
theorem commonOf_any (a b : Int) (w : World) (ha : 0 ≤ a ∧ a ≤ 9223372036854775807) (hb : 0 ≤ b ∧ b ≤ 9223372036854775807) :
    Calls Try.prog 83 #[.int .i64 a, .int .i64 b] w fun e w' => e = .returned (.int .i64 (gcdI a b)) ∧ ∃ k, w' = w.drewN k := by
  go_enter Try.func83, Try.ntmps83
  go_wp2
  go_loopw [0, 1] (fun u v wr => ∃ x y : Int, u = .int .i64 x ∧ v = .int .i64 y ∧ (0 ≤ x ∧ x ≤ 9223372036854775807) ∧ (0 ≤ y ∧ y ≤ 9223372036854775807) ∧ gcdI x y = gcdI a b ∧ ∃ q, wr = w.drewN q) (fun _ v _ => (intOf v).toNat)
  case atStart => exact ⟨a, b, rfl, rfl, ha, hb, rfl, 0, rfl⟩
  case round =>
    obtain ⟨x, y, rfl, rfl, hx, hy, he, q, rfl⟩ := hrel
    have hE := Lib.hid he
    clear he
    by_cases h0 : 0 < y
    · have hm1 : 0 ≤ x % y := Int.emod_nonneg _ (by omega)
      have hm2 : x % y < y := Int.emod_lt_of_pos _ h0
      have hS := Lib.hid (gcdI_step hx.1 h0)
      go_wp2
      go_quiet (fail)
      go_wp2
      exact ⟨⟨y, x % y, rfl, rfl, hy, ⟨hm1, by omega⟩, hS.out.trans hE.out, _, World.drewN_drewN _ _ _⟩, by simp [intOf]; omega⟩
    · have hy0 : y = 0 := by omega
      have hS := Lib.hid (show gcdI a b = x by rw [← hE.out, hy0, gcdI_zero hx.1])
      go_wp2
      go_ret
      exact ⟨ret_int hS.out, _, rfl⟩
theorem l4Common_any (a b : Int) (w : World) (ha : 0 ≤ a ∧ a ≤ 9223372036854775807) (hb : 0 ≤ b ∧ b ≤ 9223372036854775807) :
    Calls Try.prog 97 #[.int .i64 a, .int .i64 b] w fun e w' => e = .returned (.int .i64 (gcdI a b)) ∧ w = w' := by
  go_enter Try.func97, Try.ntmps97
  go_wp2
  go_loop [0, 1] (fun u v => ∃ x y : Int, u = .int .i64 x ∧ v = .int .i64 y ∧ (0 ≤ x ∧ x ≤ 9223372036854775807) ∧ (0 ≤ y ∧ y ≤ 9223372036854775807) ∧ gcdI x y = gcdI a b) (fun _ v => (intOf v).toNat)
  case atStart => exact ⟨a, b, rfl, rfl, ha, hb, rfl⟩
  case round =>
    obtain ⟨x, y, rfl, rfl, hx, hy, he⟩ := hrel
    have hE := Lib.hid he
    clear he
    by_cases h0 : 0 < y
    · have hm1 : 0 ≤ x % y := Int.emod_nonneg _ (by omega)
      have hm2 : x % y < y := Int.emod_lt_of_pos _ h0
      have hS := Lib.hid (gcdI_step hx.1 h0)
      have hyb : (y != 0) = true := by simp; omega
      go_wp2
      go_round
      case rel => exact ⟨y, x % y, rfl, rfl, hy, ⟨hm1, by omega⟩, hS.out.trans hE.out⟩
      case measure => simp [intOf]; omega
    · have hy0 : y = 0 := by omega
      have hS := Lib.hid (show gcdI a b = x by rw [← hE.out, hy0, gcdI_zero hx.1])
      subst hy0
      go_wp2
      go_ret
      exact ⟨ret_int hS.out, rfl⟩
end Go.Proofs.Ytkggejmamhakaaa

namespace Go.Proofs.Ytkggejmamhakaaa
set_option maxRecDepth 100000
set_option linter.unusedVariables false
open Go.RowKit
/-- All numbers are from 0 to m. -/
def numsOk (m : Int) (ds : List Int) : Bool := ds.all fun d => inB d 0 m
/-- The greatest number that divides all. -/
def gcdF (ds : List Int) : Int := ds.foldl gcdI 0
theorem gcdF_take {ds : List Int} {k : Nat} {d : Int} (h : ds[k]? = some d) : gcdF (ds.take (k + 1)) = gcdI (gcdF (ds.take k)) d := by
  obtain ⟨hl, he⟩ := List.getElem?_eq_some_iff.1 h
  unfold gcdF
  rw [List.take_succ_eq_append_getElem hl, he, List.foldl_append]; rfl
theorem foldl_gcd {M : Int} : ∀ {ds : List Int} {a : Int}, (∀ x ∈ ds, 0 ≤ x ∧ x ≤ M) → 0 ≤ a ∧ a ≤ M → (0 ≤ ds.foldl gcdI a ∧ ds.foldl gcdI a ≤ M) ∧ ds.foldl gcdI a ∣ a ∧ ∀ x ∈ ds, ds.foldl gcdI a ∣ x
  | [], a, _, ha => ⟨ha, Int.dvd_refl a, fun x hx => by simp at hx⟩
  | u :: r, a, h, ha => by
    have hu := h u List.mem_cons_self
    obtain ⟨h1, h2, h3⟩ := foldl_gcd (ds := r) (a := gcdI a u) (fun x hx => h x (List.mem_cons_of_mem _ hx)) (gcdI_bd ha hu)
    obtain ⟨d1, d2⟩ := gcdI_dvd ha.1 hu.1
    refine ⟨h1, Int.dvd_trans h2 d1, fun x hx => ?_⟩
    rcases List.mem_cons.1 hx with rfl | hx
    · exact Int.dvd_trans h2 d2
    · exact h3 x hx
theorem gcdF_bd {M : Int} {ds : List Int} (h : ∀ x ∈ ds, 0 ≤ x ∧ x ≤ M) (hM : 0 ≤ M) : 0 ≤ gcdF ds ∧ gcdF ds ≤ M := (foldl_gcd h ⟨Int.le_refl _, hM⟩).1
theorem gcdF_dvd {M : Int} {ds : List Int} (h : ∀ x ∈ ds, 0 ≤ x ∧ x ≤ M) (hM : 0 ≤ M) : ∀ x ∈ ds, gcdF ds ∣ x := (foldl_gcd h ⟨Int.le_refl _, hM⟩).2.2
theorem gcdF_part {M : Int} {ds : List Int} (h : ∀ x ∈ ds, 0 ≤ x ∧ x ≤ M) (hM : 0 ≤ M) (k : Nat) : 0 ≤ gcdF (ds.take k) ∧ gcdF (ds.take k) ≤ M := gcdF_bd (fun x hx => h x (List.mem_of_mem_take hx)) hM
/-- Numbers divided by one, or as they are if that is 0. -/
def divL (ds : List Int) (g : Int) : List Int := if g = 0 then ds else ds.map fun d => d / g
theorem divL_len (ds : List Int) (g : Int) : (divL ds g).length = ds.length := by unfold divL; split <;> simp
/-- Numbers, divided by what all have in common. -/
def redL (ds : List Int) : List Int := divL ds (gcdF ds)
def reduced (ds : List Int) : List Int := if numsOk 1000000000 ds = true then redL ds else []
theorem rsum_one' : ∀ (ds : List Int) (k : Nat), rsum (fun _ => 1) ds k = isum ds
  | [], k => rfl
  | u :: r, k => by rw [rsum, isum, rsum_one' r (k + 1), Int.mul_one]
/-- The answer of weights. -/
def answ (ws : List Int) : List Int := if isum ws = 0 then [] else redL ws
theorem answ_len (ws : List Int) : (answ ws).length ≤ ws.length := by
  unfold answ redL
  split
  · simp
  · rw [divL_len]; exact Nat.le_refl _
end Go.Proofs.Ytkggejmamhakaaa
