/- Parts of the proof: Trv, Liv, Sm, Ag, An. -/
import Derived.Test.YtkggejmamhakaaaZAF
import Derived.Test.YtkggejmamhakaaaZAD
import Derived.Test.YtkggejmamhakaaaZAE
import Derived.Deep.AppendLies
import Derived.Deep.LoopGhost
import Derived.Test.YtkggejmamhakaaaZAJ
import Derived.Test.YtkggejmamhakaaaZAA
namespace Go.Proofs.Ytkggejmamhakaaa
set_option maxRecDepth 100000
/-- The state behind a statement; what is drawn is x. -/
def St.next (s : St) (st x : Int) : Int :=
  if s.k = 0 then withValue st s.a ((s.c + if s.b = -1 then 0 else valueAt st s.b) % 3)
  else if s.k = 1 then withValue st s.a ((valueAt st s.a + valueAt st s.b) % 3)
  else if s.k = 2 ∨ s.k = 3 then withValue st s.a x
  else st
def St.wgt (s : St) (n : Int) : Int := if n = 0 then s.u else if n = 1 then s.v else s.x
/-- With what a statement multiplies the weight; st is the state behind it. -/
def St.fac (s : St) (st : Int) : Int :=
  if s.k = 2 ∨ s.k = 4 then s.wgt (valueAt st s.a)
  else if s.k = 3 ∨ s.k = 5 then s.wgt ((valueAt st s.a + valueAt st s.b) % 3)
  else 1
/-- How many statements are passed over. -/
def St.jump (s : St) (st : Int) : Nat := if s.k = 6 ∧ valueAt st s.a = s.c then s.b.toNat else 0
/-- Where a run is. -/
structure Rn where
  pos : Nat
  st : Int
  wt : Int
def Rn.step (s : St) (r : Rn) (x : Int) : Rn := ⟨r.pos + 1 + s.jump r.st, s.next r.st x, r.wt * s.fac (s.next r.st x)⟩
/-- The end of a run from a place on, of these draws. -/
def run : List St → Nat → Int → Int → List Int → Option (Int × Int)
  | [], _, st, wt, ds => if ds.isEmpty then some (st, wt) else none
  | _ :: r, k + 1, st, wt, ds => run r k st wt ds
  | s :: r, 0, st, wt, ds =>
    if s.draws then
      match ds with
      | [] => none
      | d :: ds => if inB d 0 2 then run r 0 (s.next st d) (wt * s.fac (s.next st d)) ds else none
    else run r (s.jump st) (s.next st 0) (wt * s.fac (s.next st 0)) ds
/-- What holds of each run on its way. -/
def Rn.fit (r : Rn) : Prop := 0 ≤ r.st ∧ r.st ≤ 80 ∧ 0 ≤ r.wt ∧ r.wt ≤ 9 ^ r.pos
theorem Rn.fit_start : Rn.fit ⟨0, 0, 1⟩ := ⟨by decide, by decide, by decide, by decide⟩
theorem pow9_le {a b : Nat} (h : a ≤ b) : (9 : Int) ^ a ≤ 9 ^ b := by
  obtain ⟨c, rfl⟩ := Nat.exists_eq_add_of_le h
  rw [Int.pow_add]
  have h1 : (0 : Int) < 9 ^ a := Int.pow_pos (by decide)
  have h2 : (0 : Int) < 9 ^ c := Int.pow_pos (by decide)
  have := Int.mul_le_mul_of_nonneg_left (show (1 : Int) ≤ 9 ^ c by omega) (Int.le_of_lt h1)
  omega
theorem wgt_bd {s : St} (h : wOk s.u s.v s.x = true) (n : Int) : 0 ≤ s.wgt n ∧ s.wgt n ≤ 9 := by
  unfold wOk at h
  simp [inB_iff] at h
  unfold St.wgt
  split
  · omega
  · split <;> omega
theorem fac_bd {s : St} (h : s.ok = true) (st : Int) : 0 ≤ s.fac st ∧ s.fac st ≤ 9 := by
  obtain ⟨k, a, b, c, u, v, x⟩ := s
  unfold St.fac
  dsimp only
  split
  · rename_i hk
    refine wgt_bd (s := ⟨k, a, b, c, u, v, x⟩) ?_ _
    rcases hk with rfl | rfl
    · rw [ok_2] at h; simp at h; exact h.2
    · rw [ok_4] at h; simp at h; exact h.2
  · split
    · rename_i hk
      refine wgt_bd (s := ⟨k, a, b, c, u, v, x⟩) ?_ _
      rcases hk with rfl | rfl
      · rw [ok_3] at h; simp at h; exact h.2
      · rw [ok_5] at h; simp at h; exact h.2
    · omega
theorem with_bd {st v x : Int} (hs : 0 ≤ st ∧ st ≤ 80) (hv : 0 ≤ v ∧ v ≤ 3) (hx : 0 ≤ x ∧ x ≤ 2) : 0 ≤ withValue st v x ∧ withValue st v x ≤ 80 := by
  obtain ⟨k, rfl, hk⟩ := nat4 hv.1 hv.2
  rw [withValue_yes hs.1 hs.2 rfl hk hx.1 hx.2]
  obtain rfl | rfl | rfl | rfl : k = 0 ∨ k = 1 ∨ k = 2 ∨ k = 3 := by omega
  all_goals simp only [p3]; omega
theorem next_bd {s : St} (h : s.ok = true) {st x : Int} (hs : 0 ≤ st ∧ st ≤ 80) (hx : 0 ≤ x ∧ x ≤ 2) : 0 ≤ s.next st x ∧ s.next st x ≤ 80 := by
  obtain ⟨k, a, b, c, u, v, y⟩ := s
  have hr := ok_rng h
  unfold St.next
  dsimp only
  split
  · exact with_bd hs (by omega) (by omega)
  · split
    · exact with_bd hs (by omega) (by omega)
    · split
      · exact with_bd hs (by omega) hx
      · exact hs
theorem Rn.fit.step {s : St} {r : Rn} {x : Int} (h : r.fit) (hs : s.ok = true) (hx : 0 ≤ x ∧ x ≤ 2) : (Rn.step s r x).fit := by
  obtain ⟨h0, h1, h2, h3⟩ := h
  obtain ⟨n0, n1⟩ := next_bd hs ⟨h0, h1⟩ hx
  obtain ⟨f0, f1⟩ := fac_bd hs (s.next r.st x)
  refine ⟨n0, n1, Int.mul_nonneg h2 f0, ?_⟩
  have e1 : r.wt * s.fac (s.next r.st x) ≤ r.wt * 9 := Int.mul_le_mul_of_nonneg_left f1 h2
  have e2 : r.wt * 9 ≤ 9 ^ r.pos * 9 := Int.mul_le_mul_of_nonneg_right h3 (by decide)
  have e3 : (9 : Int) ^ (r.pos + 1) = 9 ^ r.pos * 9 := Int.pow_succ 9 r.pos
  have e4 := pow9_le (show r.pos + 1 ≤ r.pos + 1 + s.jump r.st by omega)
  show r.wt * s.fac (s.next r.st x) ≤ 9 ^ (r.pos + 1 + s.jump r.st)
  omega
end Go.Proofs.Ytkggejmamhakaaa
namespace Go.Proofs.Ytkggejmamhakaaa
set_option maxRecDepth 100000
/-- How a run ended: what was drawn, the state and the weight. -/
abbrev Leaf := List Int × Int × Int
def lpre (pre : List Int) (l : Leaf) : Leaf := (pre ++ l.1, l.2)
/-- All ends of runs from a place on; a run whose weight is 0 ends there. -/
def lv : List St → Nat → Int → Int → List Leaf
  | [], _, st, wt => [([], st, wt)]
  | _ :: r, k + 1, st, wt => lv r k st wt
  | s :: r, 0, st, wt =>
    if wt = 0 then [([], st, 0)]
    else if s.draws then
      (lv r 0 (s.next st 0) (wt * s.fac (s.next st 0))).map (lpre [0]) ++ ((lv r 0 (s.next st 1) (wt * s.fac (s.next st 1))).map (lpre [1]) ++ (lv r 0 (s.next st 2) (wt * s.fac (s.next st 2))).map (lpre [2]))
    else lv r (s.jump st) (s.next st 0) (wt * s.fac (s.next st 0))
def lvR (os : List St) (r : Rn) : List Leaf := lv (os.drop r.pos) 0 r.st r.wt
/-- The runs that draw d where r is. -/
def bran (os : List St) (pre : List Int) (s : St) (r : Rn) (d : Int) : List Leaf := (lvR os (Rn.step s r d)).map (lpre (pre ++ [d]))
/-- The runs behind those that draw what the row has in place j. -/
def restAt (os : List St) (row : List Int) (stk : List Rn) (j : Nat) : List Leaf :=
  match row[j]?, stk[j]? with
  | some d, some r =>
    match os[r.pos]? with
    | some s => (if d < 1 then bran os (row.take j) s r 1 else []) ++ (if d < 2 then bran os (row.take j) s r 2 else [])
    | none => []
  | _, _ => []
def rest (os : List St) (row : List Int) (stk : List Rn) : Nat → List Leaf
  | 0 => []
  | j + 1 => restAt os row stk j ++ rest os row stk j
/-- The runs with a weight. -/
def filt (ls : List Leaf) : List Leaf := ls.filter fun l => !(l.2.2 == 0)
/-- All traces of an unrolled program, in order, with their states and weights. -/
def traces (os : List St) : List Leaf := filt (lvR os ⟨0, 0, 1⟩)
end Go.Proofs.Ytkggejmamhakaaa
namespace Go.Proofs.Ytkggejmamhakaaa
set_option maxRecDepth 100000
end Go.Proofs.Ytkggejmamhakaaa
namespace Go.Proofs.Ytkggejmamhakaaa
set_option maxRecDepth 100000
end Go.Proofs.Ytkggejmamhakaaa
namespace Go.Proofs.Ytkggejmamhakaaa
set_option maxRecDepth 100000
set_option linter.unusedVariables false
/-- The sum, over all ends of runs from a place on, of the weight times h of the state in the end. -/
def val (h : Int → Int) : List St → Nat → Int → Int
  | [], _, st => h st
  | _ :: r, k + 1, st => val h r k st
  | s :: r, 0, st =>
    if s.draws then s.fac (s.next st 0) * val h r 0 (s.next st 0) + s.fac (s.next st 1) * val h r 0 (s.next st 1) + s.fac (s.next st 2) * val h r 0 (s.next st 2)
    else s.fac (s.next st 0) * val h r (s.jump st) (s.next st 0)
end Go.Proofs.Ytkggejmamhakaaa

namespace Go.Proofs.Ytkggejmamhakaaa
set_option maxRecDepth 100000
set_option linter.unusedVariables false
/-- Sets of variables as bits. -/
def tb (L : Int) (v : Nat) : Bool := L.toNat.testBit v
def bor (a b : Int) : Int := ((a.toNat ||| b.toNat : Nat) : Int)
def bdf (a b : Int) : Int := ((a.toNat &&& (15 - b.toNat) : Nat) : Int)
/-- Two states have the same values of all variables of a set. -/
def agree (L a b : Int) : Prop := ∀ v : Nat, v ≤ 3 → tb L v = true → valueAt a v = valueAt b v
theorem agree.symm {L a b : Int} (h : agree L a b) : agree L b a := fun v hv ht => (h v hv ht).symm
theorem agree.mono {L M a b : Int} (h : agree L a b) (hm : ∀ v : Nat, v ≤ 3 → tb M v = true → tb L v = true) : agree M a b := fun v hv ht => h v hv (hm v hv ht)
/-- The variables on which it hangs ahead of a statement. -/
def St.ahead (s : St) (L : Int) : Int := if s.k = 4 ∨ s.k = 5 ∨ (0 ≤ s.sets ∧ tb L s.sets.toNat = true) then bor (bdf L (bitN s.sets)) s.reads else L
theorem reads_bd (s : St) : 0 ≤ s.reads ∧ s.reads ≤ 15 := by
  unfold St.reads
  cases hok : s.ok
  · simp
  · rw [if_pos rfl]
    obtain ⟨k, a, b, c, u, v, x⟩ := s
    have hr := ok_rng hok
    have h1 := bitN_bd a
    have h2 := bitN_bd b
    dsimp only
    split
    · omega
    · split
      · rename_i h
        have hab : 0 ≤ a ∧ a ≤ 3 ∧ 0 ≤ b ∧ b ≤ 3 ∧ a ≠ b := by omega
        obtain ⟨ha0, ha1, hb0, hb1, hne⟩ := hab
        obtain rfl | rfl | rfl | rfl := bit_cases ha0 ha1
        all_goals
          obtain rfl | rfl | rfl | rfl := bit_cases hb0 hb1
          all_goals first | (exact absurd rfl hne) | decide
      · split
        · omega
        · omega
end Go.Proofs.Ytkggejmamhakaaa

namespace Go.Proofs.Ytkggejmamhakaaa
set_option maxRecDepth 100000
set_option linter.unusedVariables false
open Go.RowKit
theorem new_one (w : World) (x : Value) (t : TypeId) : ∀ j u, [x][j]? = some u → (w.alloc (.cells #[x] t)).cell? ((⟨w.heap.size, 0, none⟩ : Addr).add j) = some u := by
  intro j u hu
  have hj : j = 0 := by
    have := (List.getElem?_eq_some_iff.1 hu).1
    simp at this; exact this
  subst hj
  have hu' : x = u := by simpa using hu
  subst hu'
  have h := (Has.new w t #[x]).cell 0
  simp [Addr.add] at h ⊢
/-- What a row is worth, its first entry being of state k. -/
def rsum (v : Int → Int) : List Int → Nat → Int
  | [], _ => 0
  | u :: r, k => u * v k + rsum v r (k + 1)
theorem rsum_nonneg {v : Int → Int} (hv : ∀ k, 0 ≤ v k) : ∀ {r : List Int} (k : Nat), (∀ x ∈ r, 0 ≤ x) → 0 ≤ rsum v r k
  | [], _, _ => by simp [rsum]
  | u :: r, k, h => by
    have h1 := Int.mul_nonneg (h u List.mem_cons_self) (hv k)
    have h2 := rsum_nonneg hv (k + 1) (fun x hx => h x (List.mem_cons_of_mem _ hx))
    rw [rsum]; omega
theorem rsum_ge {v : Int → Int} (hv : ∀ k, 1 ≤ v k) : ∀ {r : List Int} (k : Nat), (∀ x ∈ r, 0 ≤ x) → ∀ x ∈ r, x ≤ rsum v r k
  | [], _, _, x, hx => by simp at hx
  | u :: r, k, h, x, hx => by
    have h1 : u * 1 ≤ u * v k := Int.mul_le_mul_of_nonneg_left (hv k) (h u List.mem_cons_self)
    have h2 := rsum_nonneg (fun k => Int.le_trans (by decide) (hv k)) (k + 1) (fun x hx => h x (List.mem_cons_of_mem _ hx))
    have h0 := h u List.mem_cons_self
    rw [rsum]
    rcases List.mem_cons.1 hx with rfl | hx
    · omega
    · have := rsum_ge hv (k + 1) (fun x hx => h x (List.mem_cons_of_mem _ hx)) x hx
      omega
def zs (n : Nat) : List Int := List.replicate n 0
def isum : List Int → Int
  | [] => 0
  | u :: r => u + isum r
theorem isum_append : ∀ (a b : List Int), isum (a ++ b) = isum a + isum b
  | [], b => by simp [isum]
  | u :: r, b => by rw [List.cons_append, isum, isum, isum_append r b]; omega
theorem isum_take {ds : List Int} {k : Nat} {d : Int} (h : ds[k]? = some d) : isum (ds.take (k + 1)) = isum (ds.take k) + d := by
  obtain ⟨hl, he⟩ := List.getElem?_eq_some_iff.1 h
  rw [List.take_succ_eq_append_getElem hl, isum_append, he]
  simp [isum]
theorem isum_nonneg : ∀ {ds : List Int}, (∀ x ∈ ds, 0 ≤ x) → 0 ≤ isum ds
  | [], _ => by simp [isum]
  | u :: r, h => by
    have h1 := h u List.mem_cons_self
    have h2 := isum_nonneg (fun x hx => h x (List.mem_cons_of_mem u hx))
    rw [isum]; omega
theorem isum_le {ds : List Int} (h : ∀ x ∈ ds, 0 ≤ x) (k : Nat) : 0 ≤ isum (ds.take k) ∧ isum (ds.take k) ≤ isum ds := by
  have h1 := isum_nonneg (ds := ds.take k) (fun x hx => h x (List.mem_of_mem_take hx))
  have h2 := isum_nonneg (ds := ds.drop k) (fun x hx => h x (List.mem_of_mem_drop hx))
  have h3 := isum_append (ds.take k) (ds.drop k)
  rw [List.take_append_drop] at h3
  omega
end Go.Proofs.Ytkggejmamhakaaa

namespace Go.Proofs.Ytkggejmamhakaaa
set_option maxRecDepth 100000
set_option linter.unusedVariables false
open Go.RowKit
/-- The greatest number that divides both. -/
def gcdI (a b : Int) : Int := (Nat.gcd a.toNat b.toNat : Nat)
theorem gcdI_zero {a : Int} (h : 0 ≤ a) : gcdI a 0 = a := by
  unfold gcdI
  rw [show (0 : Int).toNat = 0 from rfl, Nat.gcd_zero_right]
  omega
theorem gcdI_step {a b : Int} (ha : 0 ≤ a) (hb : 0 < b) : gcdI b (a % b) = gcdI a b := by
  obtain ⟨x, rfl⟩ := Int.eq_ofNat_of_zero_le ha
  obtain ⟨y, rfl⟩ := Int.eq_ofNat_of_zero_le (Int.le_of_lt hb)
  unfold gcdI
  rw [← Int.natCast_emod, Int.toNat_natCast, Int.toNat_natCast, Int.toNat_natCast, Nat.gcd_comm x y, Nat.gcd_rec y x, Nat.gcd_comm]
theorem gcdI_bd {a b M : Int} (ha : 0 ≤ a ∧ a ≤ M) (hb : 0 ≤ b ∧ b ≤ M) : 0 ≤ gcdI a b ∧ gcdI a b ≤ M := by
  unfold gcdI
  refine ⟨Int.natCast_nonneg _, ?_⟩
  rcases Nat.eq_zero_or_pos b.toNat with h | h
  · rw [h, Nat.gcd_zero_right]; omega
  · have := Nat.gcd_le_right a.toNat h
    omega
theorem gcdI_dvd {a b : Int} (ha : 0 ≤ a) (hb : 0 ≤ b) : gcdI a b ∣ a ∧ gcdI a b ∣ b := by
  unfold gcdI
  have h1 := Nat.gcd_dvd_left a.toNat b.toNat
  have h2 := Nat.gcd_dvd_right a.toNat b.toNat
  have e1 : ((a.toNat : Nat) : Int) = a := Int.toNat_of_nonneg ha
  have e2 : ((b.toNat : Nat) : Int) = b := Int.toNat_of_nonneg hb
  constructor
  · have := Int.natCast_dvd_natCast.2 h1
    rwa [e1] at this
  · have := Int.natCast_dvd_natCast.2 h2
    rwa [e2] at this
theorem commonOf_any (a b : Int) (w : World) (ha : 0 ≤ a ∧ a ≤ 9223372036854775807) (hb : 0 ≤ b ∧ b ≤ 9223372036854775807) :
    Calls Try.prog 83 #[.int .i64 a, .int .i64 b] w fun e w' => e = .returned (.int .i64 (gcdI a b)) ∧ ∃ k, w' = w.drewN k := by
  go_enter Try.func83, Try.ntmps83
  go_wp2
  go_loopw [0, 1] (fun u v wr => ∃ x y : Int, u = .int .i64 x ∧ v = .int .i64 y ∧ (0 ≤ x ∧ x ≤ 9223372036854775807) ∧ (0 ≤ y ∧ y ≤ 9223372036854775807) ∧ gcdI x y = gcdI a b ∧ ∃ q, wr = w.drewN q) (fun _ v _ => (intOf v).toNat)
  case atStart => exact ⟨a, b, rfl, rfl, ha, hb, rfl, 0, rfl⟩
  case round =>
    obtain ⟨x, y, rfl, rfl, hx, hy, he, q, rfl⟩ := hrel
    have hE := Lib.hid he
    clear he
    by_cases h0 : 0 < y
    · have hm1 : 0 ≤ x % y := Int.emod_nonneg _ (by omega)
      have hm2 : x % y < y := Int.emod_lt_of_pos _ h0
      have hS := Lib.hid (gcdI_step hx.1 h0)
      go_wp2
      go_quiet (fail)
      go_wp2
      exact ⟨⟨y, x % y, rfl, rfl, hy, ⟨hm1, by omega⟩, hS.out.trans hE.out, _, World.drewN_drewN _ _ _⟩, by simp [intOf]; omega⟩
    · have hy0 : y = 0 := by omega
      have hS := Lib.hid (show gcdI a b = x by rw [← hE.out, hy0, gcdI_zero hx.1])
      go_wp2
      go_ret
      exact ⟨ret_int hS.out, _, rfl⟩
theorem l4Common_any (a b : Int) (w : World) (ha : 0 ≤ a ∧ a ≤ 9223372036854775807) (hb : 0 ≤ b ∧ b ≤ 9223372036854775807) :
    Calls Try.prog 97 #[.int .i64 a, .int .i64 b] w fun e w' => e = .returned (.int .i64 (gcdI a b)) ∧ w = w' := by
  go_enter Try.func97, Try.ntmps97
  go_wp2
  go_loop [0, 1] (fun u v => ∃ x y : Int, u = .int .i64 x ∧ v = .int .i64 y ∧ (0 ≤ x ∧ x ≤ 9223372036854775807) ∧ (0 ≤ y ∧ y ≤ 9223372036854775807) ∧ gcdI x y = gcdI a b) (fun _ v => (intOf v).toNat)
  case atStart => exact ⟨a, b, rfl, rfl, ha, hb, rfl⟩
  case round =>
    obtain ⟨x, y, rfl, rfl, hx, hy, he⟩ := hrel
    have hE := Lib.hid he
    clear he
    by_cases h0 : 0 < y
    · have hm1 : 0 ≤ x % y := Int.emod_nonneg _ (by omega)
      have hm2 : x % y < y := Int.emod_lt_of_pos _ h0
      have hS := Lib.hid (gcdI_step hx.1 h0)
      have hyb : (y != 0) = true := by simp; omega
      go_wp2
      go_round
      case rel => exact ⟨y, x % y, rfl, rfl, hy, ⟨hm1, by omega⟩, hS.out.trans hE.out⟩
      case measure => simp [intOf]; omega
    · have hy0 : y = 0 := by omega
      have hS := Lib.hid (show gcdI a b = x by rw [← hE.out, hy0, gcdI_zero hx.1])
      subst hy0
      go_wp2
      go_ret
      exact ⟨ret_int hS.out, rfl⟩
end Go.Proofs.Ytkggejmamhakaaa

namespace Go.Proofs.Ytkggejmamhakaaa
set_option maxRecDepth 100000
set_option linter.unusedVariables false
open Go.RowKit
/-- The greatest number that divides all. -/
def gcdF (ds : List Int) : Int := ds.foldl gcdI 0
theorem gcdF_take {ds : List Int} {k : Nat} {d : Int} (h : ds[k]? = some d) : gcdF (ds.take (k + 1)) = gcdI (gcdF (ds.take k)) d := by
  obtain ⟨hl, he⟩ := List.getElem?_eq_some_iff.1 h
  unfold gcdF
  rw [List.take_succ_eq_append_getElem hl, he, List.foldl_append]; rfl
theorem foldl_gcd {M : Int} : ∀ {ds : List Int} {a : Int}, (∀ x ∈ ds, 0 ≤ x ∧ x ≤ M) → 0 ≤ a ∧ a ≤ M → (0 ≤ ds.foldl gcdI a ∧ ds.foldl gcdI a ≤ M) ∧ ds.foldl gcdI a ∣ a ∧ ∀ x ∈ ds, ds.foldl gcdI a ∣ x
  | [], a, _, ha => ⟨ha, Int.dvd_refl a, fun x hx => by simp at hx⟩
  | u :: r, a, h, ha => by
    have hu := h u List.mem_cons_self
    obtain ⟨h1, h2, h3⟩ := foldl_gcd (ds := r) (a := gcdI a u) (fun x hx => h x (List.mem_cons_of_mem _ hx)) (gcdI_bd ha hu)
    obtain ⟨d1, d2⟩ := gcdI_dvd ha.1 hu.1
    refine ⟨h1, Int.dvd_trans h2 d1, fun x hx => ?_⟩
    rcases List.mem_cons.1 hx with rfl | hx
    · exact Int.dvd_trans h2 d2
    · exact h3 x hx
theorem gcdF_bd {M : Int} {ds : List Int} (h : ∀ x ∈ ds, 0 ≤ x ∧ x ≤ M) (hM : 0 ≤ M) : 0 ≤ gcdF ds ∧ gcdF ds ≤ M := (foldl_gcd h ⟨Int.le_refl _, hM⟩).1
theorem gcdF_dvd {M : Int} {ds : List Int} (h : ∀ x ∈ ds, 0 ≤ x ∧ x ≤ M) (hM : 0 ≤ M) : ∀ x ∈ ds, gcdF ds ∣ x := (foldl_gcd h ⟨Int.le_refl _, hM⟩).2.2
theorem gcdF_part {M : Int} {ds : List Int} (h : ∀ x ∈ ds, 0 ≤ x ∧ x ≤ M) (hM : 0 ≤ M) (k : Nat) : 0 ≤ gcdF (ds.take k) ∧ gcdF (ds.take k) ≤ M := gcdF_bd (fun x hx => h x (List.mem_of_mem_take hx)) hM
theorem rsum_one' : ∀ (ds : List Int) (k : Nat), rsum (fun _ => 1) ds k = isum ds
  | [], k => rfl
  | u :: r, k => by rw [rsum, isum, rsum_one' r (k + 1), Int.mul_one]
end Go.Proofs.Ytkggejmamhakaaa
