/- Sums of lists of numbers; how weights are told; noughts. -/
import Derived.Test.YtbndonfpdioibaaNm
import Derived.Deep.AppendLies
import Derived.Deep.LoopGhost
namespace Go.Proofs.Ytbndonfpdioibaa
set_option maxRecDepth 100000
set_option linter.unusedVariables false
open Go.RowKit

theorem new_one (w : World) (x : Value) (t : TypeId) : ∀ j u, [x][j]? = some u → (w.alloc (.cells #[x] t)).cell? ((⟨w.heap.size, 0, none⟩ : Addr).add j) = some u := by
  intro j u hu
  have hj : j = 0 := by
    have := (List.getElem?_eq_some_iff.1 hu).1
    simp at this; exact this
  subst hj
  have hu' : x = u := by simpa using hu
  subst hu'
  have h := (Has.new w t #[x]).cell 0
  simp [Addr.add] at h ⊢
/-- How weights are told. -/
def Wtsd (w : World) (os : List Int) (e : Ending) (w' : World) : Prop := ∃ v, e = .returned v ∧ IOwn w' w.heap.size v os ∧ Below w.heap.size w w'

/-- What a row is worth, its first entry being of state k. -/
def rsum (v : Int → Int) : List Int → Nat → Int
  | [], _ => 0
  | u :: r, k => u * v k + rsum v r (k + 1)
theorem rsum_set (v : Int → Int) : ∀ (r : List Int) (z k : Nat) (x : Int), z < r.length → rsum v (r.set z (r.getD z 0 + x)) k = rsum v r k + x * v ((k + z : Nat) : Int)
  | [], z, k, x, h => by simp at h
  | u :: r, 0, k, x, h => by
    show (u + x) * v k + rsum v r (k + 1) = u * v k + rsum v r (k + 1) + x * v ((k : Nat) : Int)
    rw [Int.add_mul]; omega
  | u :: r, z + 1, k, x, h => by
    have ih := rsum_set v r z (k + 1) x (by simpa using h)
    show u * v k + rsum v (r.set z (r.getD z 0 + x)) (k + 1) = u * v k + rsum v r (k + 1) + x * v ((k + (z + 1) : Nat) : Int)
    rw [ih, show k + 1 + z = k + (z + 1) by omega]; omega
theorem rsum_nonneg {v : Int → Int} (hv : ∀ k, 0 ≤ v k) : ∀ {r : List Int} (k : Nat), (∀ x ∈ r, 0 ≤ x) → 0 ≤ rsum v r k
  | [], _, _ => by simp [rsum]
  | u :: r, k, h => by
    have h1 := Int.mul_nonneg (h u List.mem_cons_self) (hv k)
    have h2 := rsum_nonneg hv (k + 1) (fun x hx => h x (List.mem_cons_of_mem _ hx))
    rw [rsum]; omega
theorem rsum_ge {v : Int → Int} (hv : ∀ k, 1 ≤ v k) : ∀ {r : List Int} (k : Nat), (∀ x ∈ r, 0 ≤ x) → ∀ x ∈ r, x ≤ rsum v r k
  | [], _, _, x, hx => by simp at hx
  | u :: r, k, h, x, hx => by
    have h1 : u * 1 ≤ u * v k := Int.mul_le_mul_of_nonneg_left (hv k) (h u List.mem_cons_self)
    have h2 := rsum_nonneg (fun k => Int.le_trans (by decide) (hv k)) (k + 1) (fun x hx => h x (List.mem_cons_of_mem _ hx))
    have h0 := h u List.mem_cons_self
    rw [rsum]
    rcases List.mem_cons.1 hx with rfl | hx
    · omega
    · have := rsum_ge hv (k + 1) (fun x hx => h x (List.mem_cons_of_mem _ hx)) x hx
      omega
theorem rsum_zero (v : Int → Int) : ∀ (n k : Nat), rsum v (List.replicate n 0) k = 0
  | 0, _ => rfl
  | n + 1, k => by rw [List.replicate_succ, rsum, rsum_zero v n]; omega

def zs (n : Nat) : List Int := List.replicate n 0
theorem zs_len (n : Nat) : (zs n).length = n := List.length_replicate
theorem zs_succ (n : Nat) : zs (n + 1) = zs n ++ [0] := List.replicate_succ'

set_option maxHeartbeats 2000000 in
theorem l3ZerosN_any (n : Nat) (hn81 : n ≤ 81) (w : World) :
    Calls Try.prog 109 #[.int .i64 n] w (Wtsd w (zs n)) := by
  obtain ⟨i0, hi0, hz0, hz1', hz2'⟩ := info_parts info_int
  have hN := Lib.hid (show IOwn (w.alloc (.cells #[] 3)) w.heap.size (.slice (some ⟨w.heap.size, 0, none⟩) 0 0) (zs 0) from
    ⟨rfl, .inr ⟨w.heap.size, 0, #[], rfl, Nat.le_refl _, Has.new w _ _, Nat.le_refl _, Nat.zero_le _, rfl, rfl⟩⟩)
  have hB0 := Lib.hid (show Below w.heap.size w (w.alloc (.cells #[] 3)) from (Below.refl _ _).alloc (Nat.le_refl _) _)
  go_enter Try.func109, Try.ntmps109
  go_wp2_with fail
  go_loopg [3, 4] n (fun gn o v wr => ∃ k : Nat, k ≤ n ∧ gn = n - k ∧ v = .int .i64 k ∧ IOwn wr w.heap.size o (zs k) ∧ Below w.heap.size w wr)
  case atStart => exact ⟨0, Nat.zero_le _, rfl, rfl, hN.out, hB0.out⟩
  case round =>
    obtain ⟨k, hk, hgn, rfl, hO, hb2⟩ := hrel
    obtain ⟨Ao, co, hvo, _, _⟩ := hO.form
    subst hvo
    have hz2 := hb2.size
    have hgk : gk = n - k := hgn
    clear hgn
    rw [zs_len] at *
    by_cases hlt : k < n
    · have hO3 := Lib.hid (hO.alloc (.cells #[.int .i64 0] 3))
      have hnw := Lib.hid (new_one wr (.int .i64 0) 3)
      have hB3 := Lib.hid (hb2.alloc hz2 (.cells #[.int .i64 0] 3))
      clear hO hb2
      go_wp2_with (at_builtin; refine wpList_append_lies _ rfl (.tmp 11) (.tmp 12) 24 rfl w.heap.size 3 i0 _ 1 8 Try.underlying24 hi0 hz0 hz1' hz2' rfl (by decide) (.slice Ao k co) k (ints (zs k)) rfl (by have := hO3.out; unfold IOwn at this; rw [zs_len] at this; exact this) ⟨wr.heap.size, 0, none⟩ 1 1 [.int .i64 0] rfl rfl (by exact hnw.out) (by simp [Value.oneCell']) (by omega) (by unfold maxLen; omega) (by omega) (by simp; omega) (wr.heap.size + 1) (by simp) ?_; intro gr cr2 w4 hown4 hgrow4 hat4 hlt4)
      have hF := Lib.hid (IOwn.append_ (news := [(0 : Int)]) hO3.out (by rw [zs_len]; exact hown4) hgrow4 hB3.out (by simp; omega))
      clear hown4 hgrow4 hat4
      go_wp2_with fail
      go_roundg (n - (k + 1))
      case measure => omega
      case rel => exact ⟨k + 1, by omega, rfl, by go_num, by rw [zs_succ]; exact hF.out.1, hF.out.2⟩
    · obtain rfl : k = n := by omega
      have hF := Lib.hid (show Wtsd w (zs k) (.returned (.slice Ao k co)) wr from ⟨_, rfl, hO, hb2⟩)
      clear hO hb2
      go_wp2_with fail
      go_ret
      exact hF.out

theorem l3Zeros_any (w : World) :
    Calls Try.prog 109 #[.int .i64 81] w (Wtsd w (zs 81)) := l3ZerosN_any 81 (by decide) w

def isum : List Int → Int
  | [] => 0
  | u :: r => u + isum r
theorem isum_append : ∀ (a b : List Int), isum (a ++ b) = isum a + isum b
  | [], b => by simp [isum]
  | u :: r, b => by rw [List.cons_append, isum, isum, isum_append r b]; omega
theorem isum_take {ds : List Int} {k : Nat} {d : Int} (h : ds[k]? = some d) : isum (ds.take (k + 1)) = isum (ds.take k) + d := by
  obtain ⟨hl, he⟩ := List.getElem?_eq_some_iff.1 h
  rw [List.take_succ_eq_append_getElem hl, isum_append, he]
  simp [isum]
theorem isum_nonneg : ∀ {ds : List Int}, (∀ x ∈ ds, 0 ≤ x) → 0 ≤ isum ds
  | [], _ => by simp [isum]
  | u :: r, h => by
    have h1 := h u List.mem_cons_self
    have h2 := isum_nonneg (fun x hx => h x (List.mem_cons_of_mem u hx))
    rw [isum]; omega
theorem isum_le {ds : List Int} (h : ∀ x ∈ ds, 0 ≤ x) (k : Nat) : 0 ≤ isum (ds.take k) ∧ isum (ds.take k) ≤ isum ds := by
  have h1 := isum_nonneg (ds := ds.take k) (fun x hx => h x (List.mem_of_mem_take hx))
  have h2 := isum_nonneg (ds := ds.drop k) (fun x hx => h x (List.mem_of_mem_drop hx))
  have h3 := isum_append (ds.take k) (ds.drop k)
  rw [List.take_append_drop] at h3
  omega
theorem l3Sum_any (A : Option Addr) (n c : Nat) (ds : List Int) (w : World) (h : Ils w w.heap.size A n ds) (hL : ds.length = n) (hn : n ≤ 1000) (h0 : ∀ x ∈ ds, 0 ≤ x) (ht : isum ds ≤ 1000000000000000000) :
    Calls Try.prog 80 #[.slice A n c] w fun e w' => e = .returned (.int .i64 (isum ds)) ∧ Below w.heap.size w w' := by
  have hI := Lib.hid h
  have hP := Lib.hid (isum_le h0)
  have hT := Lib.hid (show isum (ds.take n) = isum ds by rw [List.take_of_length_le (by omega)])
  clear h h0
  go_enter Try.func80, Try.ntmps80
  go_wp2_with fail
  go_loopg [3, 4] n (fun gn o v wr => ∃ k : Nat, k ≤ n ∧ gn = n - k ∧ v = .int .i64 k ∧ o = .int .i64 (isum (ds.take k)) ∧ Below w.heap.size w wr)
  case atStart => exact ⟨0, Nat.zero_le _, rfl, rfl, rfl, Below.refl _ _⟩
  case round =>
    obtain ⟨k, hk, hgn, rfl, rfl, hB⟩ := hrel
    have hgk : gk = n - k := hgn
    have hB' := Lib.hid hB
    clear hgn
    by_cases hlt : k < n
    · obtain ⟨g, off, d, rfl, hg, hd, c0⟩ := (hI.out.below hB).at_ hlt
      have h1 := (hP.out k)
      have h2 := (hP.out (k + 1))
      rw [isum_take hd] at h2
      have hR := Lib.hid (isum_take hd)
      have hw : IntKind.i64.wrap (isum (ds.take k) + d) = isum (ds.take k) + d := by rw [IntKind.wrap_i64]; omega
      have hk0 : (0 : Int) ≤ (k : Int) := by omega
      have hk1 : (k : Int) < (n : Int) := by omega
      clear hd hB
      go_wp2_with fail
      go_roundg (n - (k + 1))
      case measure => omega
      case rel => exact ⟨k + 1, by omega, rfl, by go_num, by rw [hR.out], hB'.out⟩
    · obtain rfl : k = n := by omega
      rw [hT.out]
      clear hB
      go_wp2_with fail
      go_ret
      exact ⟨rfl, hB'.out⟩

end Go.Proofs.Ytbndonfpdioibaa
