/- Sums of lists of numbers; how weights are told; noughts. -/
import Derived.Test.YtaipdkfbkcknkaaNm
import Derived.Deep.AppendLies
import Derived.Deep.LoopGhost
namespace Go.Proofs.Ytaipdkfbkcknkaa
set_option maxRecDepth 100000
set_option linter.unusedVariables false
open Go.RowKit

theorem new_one (w : World) (x : Value) (t : TypeId) : ∀ j u, [x][j]? = some u → (w.alloc (.cells #[x] t)).cell? ((⟨w.heap.size, 0, none⟩ : Addr).add j) = some u := by
  intro j u hu
  have hj : j = 0 := by
    have := (List.getElem?_eq_some_iff.1 hu).1
    simp at this; exact this
  subst hj
  have hu' : x = u := by simpa using hu
  subst hu'
  have h := (Has.new w t #[x]).cell 0
  simp [Addr.add] at h ⊢
/-- How weights are told. -/
def Wtsd (w : World) (os : List Int) (e : Ending) (w' : World) : Prop := ∃ v, e = .returned v ∧ IOwn w' w.heap.size v os ∧ Below w.heap.size w w'

/-- What a row is worth, its first entry being of state k. -/
def rsum (v : Int → Int) : List Int → Nat → Int
  | [], _ => 0
  | u :: r, k => u * v k + rsum v r (k + 1)
theorem rsum_set (v : Int → Int) : ∀ (r : List Int) (z k : Nat) (x : Int), z < r.length → rsum v (r.set z (r.getD z 0 + x)) k = rsum v r k + x * v ((k + z : Nat) : Int)
  | [], z, k, x, h => by simp at h
  | u :: r, 0, k, x, h => by
    show (u + x) * v k + rsum v r (k + 1) = u * v k + rsum v r (k + 1) + x * v ((k : Nat) : Int)
    rw [Int.add_mul]; omega
  | u :: r, z + 1, k, x, h => by
    have ih := rsum_set v r z (k + 1) x (by simpa using h)
    show u * v k + rsum v (r.set z (r.getD z 0 + x)) (k + 1) = u * v k + rsum v r (k + 1) + x * v ((k + (z + 1) : Nat) : Int)
    rw [ih, show k + 1 + z = k + (z + 1) by omega]; omega
theorem rsum_nonneg {v : Int → Int} (hv : ∀ k, 0 ≤ v k) : ∀ {r : List Int} (k : Nat), (∀ x ∈ r, 0 ≤ x) → 0 ≤ rsum v r k
  | [], _, _ => by simp [rsum]
  | u :: r, k, h => by
    have h1 := Int.mul_nonneg (h u List.mem_cons_self) (hv k)
    have h2 := rsum_nonneg hv (k + 1) (fun x hx => h x (List.mem_cons_of_mem _ hx))
    rw [rsum]; omega
theorem rsum_ge {v : Int → Int} (hv : ∀ k, 1 ≤ v k) : ∀ {r : List Int} (k : Nat), (∀ x ∈ r, 0 ≤ x) → ∀ x ∈ r, x ≤ rsum v r k
  | [], _, _, x, hx => by simp at hx
  | u :: r, k, h, x, hx => by
    have h1 : u * 1 ≤ u * v k := Int.mul_le_mul_of_nonneg_left (hv k) (h u List.mem_cons_self)
    have h2 := rsum_nonneg (fun k => Int.le_trans (by decide) (hv k)) (k + 1) (fun x hx => h x (List.mem_cons_of_mem _ hx))
    have h0 := h u List.mem_cons_self
    rw [rsum]
    rcases List.mem_cons.1 hx with rfl | hx
    · omega
    · have := rsum_ge hv (k + 1) (fun x hx => h x (List.mem_cons_of_mem _ hx)) x hx
      omega
theorem rsum_zero (v : Int → Int) : ∀ (n k : Nat), rsum v (List.replicate n 0) k = 0
  | 0, _ => rfl
  | n + 1, k => by rw [List.replicate_succ, rsum, rsum_zero v n]; omega

def zs (n : Nat) : List Int := List.replicate n 0
theorem zs_len (n : Nat) : (zs n).length = n := List.length_replicate
theorem zs_succ (n : Nat) : zs (n + 1) = zs n ++ [0] := List.replicate_succ'

def isum : List Int → Int
  | [] => 0
  | u :: r => u + isum r
theorem isum_append : ∀ (a b : List Int), isum (a ++ b) = isum a + isum b
  | [], b => by simp [isum]
  | u :: r, b => by rw [List.cons_append, isum, isum, isum_append r b]; omega
theorem isum_take {ds : List Int} {k : Nat} {d : Int} (h : ds[k]? = some d) : isum (ds.take (k + 1)) = isum (ds.take k) + d := by
  obtain ⟨hl, he⟩ := List.getElem?_eq_some_iff.1 h
  rw [List.take_succ_eq_append_getElem hl, isum_append, he]
  simp [isum]
theorem isum_nonneg : ∀ {ds : List Int}, (∀ x ∈ ds, 0 ≤ x) → 0 ≤ isum ds
  | [], _ => by simp [isum]
  | u :: r, h => by
    have h1 := h u List.mem_cons_self
    have h2 := isum_nonneg (fun x hx => h x (List.mem_cons_of_mem u hx))
    rw [isum]; omega
theorem isum_le {ds : List Int} (h : ∀ x ∈ ds, 0 ≤ x) (k : Nat) : 0 ≤ isum (ds.take k) ∧ isum (ds.take k) ≤ isum ds := by
  have h1 := isum_nonneg (ds := ds.take k) (fun x hx => h x (List.mem_of_mem_take hx))
  have h2 := isum_nonneg (ds := ds.drop k) (fun x hx => h x (List.mem_of_mem_drop hx))
  have h3 := isum_append (ds.take k) (ds.drop k)
  rw [List.take_append_drop] at h3
  omega
end Go.Proofs.Ytaipdkfbkcknkaa
