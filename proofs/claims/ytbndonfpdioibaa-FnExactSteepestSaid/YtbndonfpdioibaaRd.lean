/- The laws' source of drawn numbers: what it hands back lies within bounds, and only its own block turns. A drawn statement. -/
import Derived.Test.YtbndonfpdioibaaMem
import Derived.Test.YtbndonfpdioibaaSc
import Derived.Laws.BitsAllLaws
import Derived.Laws.BitsLemmas
import Derived.WalkLawsBesides
import Derived.Deep.Light
import Derived.Deep.RegionHeld3
namespace Go.Proofs.Ytbndonfpdioibaa
set_option maxRecDepth 100000
open Go.RowKit

/-- Bytes that can be read, below block B. -/
def Byt (w : World) (B : Nat) (A : Option Addr) (n : Nat) : Prop :=
  0 < n → ∃ g off, A = some ⟨g, off, none⟩ ∧ g < B ∧ ∀ i, i < n → ∃ z : Int, w.cell? ⟨g, off + i, none⟩ = some (.int .u8 z) ∧ 0 ≤ z ∧ z ≤ 255

/-- A reader: a block of its own, from B on, that holds the bytes' slice and how many numbers have been drawn. -/
def Rdr (w : World) (B R : Nat) (A : Option Addr) (n c p : Nat) : Prop :=
  Has w R 163 #[.slice A n c, .int .i64 p] ∧ B ≤ R ∧ Byt w B A n

/-- Only block R has turned. -/
def Chg (w w' : World) (R : Nat) : Prop := w.grownBy w' (some R)

theorem Chg.refl (w : World) (R : Nat) : Chg w w R := World.grownBy.refl w _
theorem Chg.trans {a b c : World} {R : Nat} (h : Chg a b R) (k : Chg b c R) : Chg a c R :=
  ⟨k.os.trans h.os, k.tape.trans h.tape, k.output.trans h.output, Nat.le_trans h.size k.size, fun i hi hne => (k.block i (Nat.lt_of_lt_of_le hi h.size) hne).trans (h.block i hi hne)⟩
theorem Chg.drewN {a b : World} {R : Nat} (h : Chg a b R) (n : Nat) : Chg a (b.drewN n) R := ⟨h.os, h.tape, h.output, h.size, h.block⟩
theorem Chg.put {a b : World} {R : Nat} (h : Chg a b R) (o : Nat) (u : Value) : Chg a (b.setCell ⟨R, o, none⟩ u) R :=
  ⟨h.os, h.tape, h.output, by simpa [World.setCell] using h.size, fun i hi hne => (Below.heap_setCell b _ u i (by rintro rfl; exact hne rfl)).trans (h.block i hi hne)⟩
theorem Chg.alloc {a b : World} {R : Nat} (h : Chg a b R) (o : Obj) : Chg a (b.alloc o) R :=
  ⟨h.os, h.tape, h.output, Nat.le_trans h.size (by simp), fun i hi hne => (Below.heap_alloc b o i (Nat.lt_of_lt_of_le hi h.size)).trans (h.block i hi hne)⟩
theorem Chg.new {a b : World} {R : Nat} (h : Chg a b R) {q : Addr} (hq : a.heap.size ≤ q.block) (u : Value) : Chg a (b.setCell q u) R :=
  ⟨h.os, h.tape, h.output, by simpa [World.setCell] using h.size, fun i hi hne => (Below.heap_setCell b _ u i (by rintro rfl; omega)).trans (h.block i hi hne)⟩
theorem Chg.below {a b : World} {R B : Nat} (h : Chg a b R) (hB : B ≤ R) (hs : B ≤ a.heap.size) : Below B a b :=
  ⟨h.os, h.tape, h.output, h.size, fun i hi => h.block i (by omega) (fun e => by injection e with e; omega)⟩
theorem Has.chg {a b : World} {R g : Nat} {t : TypeId} {cs : Array Value} (h : Has a g t cs) (hc : Chg a b R) (hne : g ≠ R) : Has b g t cs :=
  (hc.block g h.lt (fun e => by injection e with e; exact hne e)).trans h

theorem Byt.keep {w w' : World} {B : Nat} {A : Option Addr} {n : Nat} (h : Byt w B A n) (hb : Below B w w') : Byt w' B A n := fun hn => by
  obtain ⟨g, off, e, hg, hc⟩ := h hn
  refine ⟨g, off, e, hg, fun i hi => ?_⟩
  obtain ⟨z, hz, h1, h2⟩ := hc i hi
  exact ⟨z, (hb.cell (p := ⟨g, off + i, none⟩) hg).trans hz, h1, h2⟩

theorem ofInt_i64 (a : Nat) (ha : a < 9223372036854775808) : (BitVec.ofInt 64 (a : Int)).toNat = a := by
  rw [BitVec.ofInt_natCast, BitVec.toNat_ofNat]; exact Nat.mod_eq_of_lt (by omega)
theorem xor_nat (a b : Nat) (ha : a < 4611686018427387904) (hb : b < 4611686018427387904) : bits .xor .i64 (a : Int) (b : Int) = ((a ^^^ b : Nat) : Int) := by
  have hx : a ^^^ b < 2 ^ 62 := Nat.xor_lt_two_pow (by omega) (by omega)
  show IntKind.i64.wrap ((BitVec.ofInt 64 (a : Int) ^^^ BitVec.ofInt 64 (b : Int)).toNat : Int) = _
  rw [BitVec.toNat_xor, ofInt_i64 a (by omega), ofInt_i64 b (by omega), IntKind.wrap_i64]
  omega
theorem xor_bd {a b : Int} (h0 : 0 ≤ a) (h1 : a < 4611686018427387904) (h2 : 0 ≤ b) (h3 : b < 4611686018427387904) : 0 ≤ bits .xor .i64 a b := by
  obtain ⟨x, rfl⟩ := Int.eq_ofNat_of_zero_le h0
  obtain ⟨y, rfl⟩ := Int.eq_ofNat_of_zero_le h2
  have := xor_nat x y (by omega) (by omega)
  omega

/-- How pick ends. -/
def Picked (w : World) (B R : Nat) (A : Option Addr) (n c p : Nat) (m : Int) (e : Ending) (w' : World) : Prop :=
  ∃ v : Int, e = .returned (.int .i64 v) ∧ 0 ≤ v ∧ v < m ∧ Rdr w' B R A n c (p + 1) ∧ Chg w w' R

set_option maxRecDepth 100000 in
set_option maxHeartbeats 1000000 in
theorem pick_any (R : Nat) (A : Option Addr) (n c p B : Nat) (m : Int) (w : World) (h : Rdr w B R A n c p) (hp : p ≤ 1000000) (hn : n ≤ 2000) (hm : 1 ≤ m) :
    Calls Try.prog 137 #[.pointer (some ⟨R, 0, none⟩), .int .i64 m] w (Picked w B R A n c p m) := by
  obtain ⟨hh, hBR, hby⟩ := h
  have hc := hh.cell
  have hfz := hh.frozen
  have hput := hh.put 1 (.int .i64 ((p + 1 : Nat) : Int))
  have hrd : Rdr (w.setCell ⟨R, 1, none⟩ (.int .i64 ((p + 1 : Nat) : Int))) B R A n c (p + 1) :=
    ⟨hput, hBR, hby.keep ((Below.refl _ _).setCell hBR _)⟩
  have hchg : Chg w (w.setCell ⟨R, 1, none⟩ (.int .i64 ((p + 1 : Nat) : Int))) R := (Chg.refl w R).put 1 _
  have hRd := Lib.hid hrd
  have hCh := Lib.hid hchg
  clear hput hrd hchg
  by_cases hn0 : n = 0
  · subst hn0
    clear hby
    go_enter Try.func137, Try.ntmps137
    go_wp2
    go_ret
    exact ⟨0, rfl, by omega, by omega, hRd.out, hCh.out⟩
  · obtain ⟨g, off, rfl, hg, hcell⟩ := hby (by omega)
    have hHC := Lib.hid hcell
    clear hcell
    have hm1 : decide (m < 1) = false := by simp; omega
    have hn1 : ((n : Int) == 0) = false := by simp; omega
    by_cases hpn : p < n
    · obtain ⟨z, hz, hz0, hz1⟩ := hHC.out p hpn
      have hm0 : 0 ≤ z % m ∧ z % m < m := ⟨Int.emod_nonneg _ (by omega), Int.emod_lt_of_pos _ (by omega)⟩
      have hM := Lib.hid hm0
      clear hm0
      go_enter Try.func137, Try.ntmps137
      go_wp2
      go_ret
      exact ⟨_, rfl, hM.out.1, hM.out.2, hRd.out, hCh.out⟩
    · have hi1 : p % n < n := Nat.mod_lt _ (by omega)
      have hi2 : (p * 7 + 3) % n < n := Nat.mod_lt _ (by omega)
      obtain ⟨z, hz, hz0, hz1⟩ := hHC.out _ hi1
      obtain ⟨y, hy, hy0, hy1⟩ := hHC.out _ hi2
      have hj1 : (0 : Int) ≤ (p : Int) % (n : Int) := Int.emod_nonneg _ (by omega)
      have hj2 : (p : Int) % (n : Int) < (n : Int) := Int.emod_lt_of_pos _ (by omega)
      have hj3 : (0 : Int) ≤ ((p : Int) * 7 + 3) % (n : Int) := Int.emod_nonneg _ (by omega)
      have hj4 : ((p : Int) * 7 + 3) % (n : Int) < (n : Int) := Int.emod_lt_of_pos _ (by omega)
      have hq1 : (0 : Int) ≤ (p : Int) / (n : Int) := Int.ediv_nonneg (by omega) (by omega)
      have hq2 : (p : Int) / (n : Int) ≤ 1000000 := Int.le_trans (Int.ediv_le_self _ (by omega)) (by omega)
      have hx : 0 ≤ bits .xor .i64 (z * 131 + y * 1117 + (p : Int) * 29 + (p : Int) / (n : Int) * 53) ((z * 131 + y * 1117 + (p : Int) * 29 + (p : Int) / (n : Int) * 53) / 64) := xor_bd (by omega) (by omega) (by omega) (by omega)
      go_enter Try.func137, Try.ntmps137
      go_wp2
      go_quiet (fail)
      go_wp2
      go_ret
      exact ⟨_, rfl, Int.emod_nonneg _ (by omega), Int.emod_lt_of_pos _ (by omega), ⟨hRd.out.1, hRd.out.2.1, hRd.out.2.2⟩, hCh.out.drewN _⟩

theorem Rdr.alloc {w : World} {B R : Nat} {A : Option Addr} {n c p : Nat} (h : Rdr w B R A n c p) (hB : B ≤ w.heap.size) (o : Obj) : Rdr (w.alloc o) B R A n c p :=
  ⟨h.1.alloc o, h.2.1, h.2.2.keep ((Below.refl _ _).alloc hB o)⟩
theorem Rdr.new {w : World} {B R : Nat} {A : Option Addr} {n c p : Nat} (h : Rdr w B R A n c p) {q : Addr} (hq : B ≤ q.block) (hR : R ≠ q.block) (u : Value) : Rdr (w.setCell q u) B R A n c p :=
  ⟨h.1.far hR u, h.2.1, h.2.2.keep ((Below.refl _ _).setCell hq u)⟩
theorem Rdr.drewN {w : World} {B R : Nat} {A : Option Addr} {n c p : Nat} (h : Rdr w B R A n c p) (k : Nat) : Rdr (w.drewN k) B R A n c p := ⟨h.1, h.2.1, h.2.2⟩
theorem Rdr.lt {w : World} {B R : Nat} {A : Option Addr} {n c p : Nat} (h : Rdr w B R A n c p) : R < w.heap.size := h.1.lt

/-- Numbers in a block, each of which has a property. -/
def Nums (w : World) (g L : Nat) (P : Int → Prop) : Prop := ∀ i, i < L → ∃ v, w.cell? ⟨g, i, none⟩ = some (.int .i64 v) ∧ P v

def Numd (w : World) (B R : Nat) (A : Option Addr) (n c p : Nat) (P : Int → Prop) (e : Ending) (w' : World) : Prop :=
  ∃ v : Int, e = .returned (.int .i64 v) ∧ P v ∧ Rdr w' B R A n c (p + 1) ∧ Chg w w' R

theorem num_any (R : Nat) (A : Option Addr) (n c p B g L cap : Nat) (P : Int → Prop) (w : World) (h : Rdr w B R A n c p) (hp : p ≤ 1000000) (hn : n ≤ 2000) (hL : 1 ≤ L) (hL2 : L ≤ 1000) (hg : g < w.heap.size) (hgR : g ≠ R) (hN : Nums w g L P) :
    Calls Try.prog 138 #[.pointer (some ⟨R, 0, none⟩), .slice (some ⟨g, 0, none⟩) L cap] w (Numd w B R A n c p P) := by
  have hNN := Lib.hid hN
  clear hN
  go_enter Try.func138, Try.ntmps138
  go_wp2_with fail
  refine (pick_any R A n c p B _ _ h hp hn (by omega)).mono ?_
  rintro e w1 ⟨v, rfl, hv0, hv1, hr, hc⟩
  obtain ⟨k, rfl⟩ := Int.eq_ofNat_of_zero_le hv0
  obtain ⟨x, hx, hP⟩ := hNN.out k (by omega)
  have hx1 : w1.cell? ⟨g, k, none⟩ = some (.int .i64 x) := (World.cell?_of_block (a := ⟨g, k, none⟩) (hc.block g hg (fun e => hgR (by injection e)))).trans hx
  have hPP := Lib.hid hP
  clear hx hP
  go_wp2
  go_ret
  exact ⟨x, rfl, hPP.out, hr, hc⟩

theorem l40Open_any (A : Option Addr) (n c : Nat) (w : World) (h : Byt w w.heap.size A n) (hn : n ≤ c) (hc : c ≤ maxLen) :
    Calls Try.prog 87 #[.slice A n c] w fun e w' => e = .returned (.pointer (some ⟨w.heap.size, 0, none⟩)) ∧ (∃ n', n' ≤ 2000 ∧ Rdr w' w.heap.size w.heap.size A n' c 0) ∧ Below w.heap.size w w' := by
  unfold maxLen at hc
  by_cases hb : 2000 < n
  · have hr : ∀ o, o = .cells #[.slice A 2000 c, .int .i64 0] 163 → Rdr (w.alloc o) w.heap.size w.heap.size A 2000 c 0 := by
      rintro o rfl
      refine ⟨Has.new w _ _, Nat.le_refl _, Byt.keep (fun h0 => ?_) ((Below.refl _ _).alloc (Nat.le_refl _) _)⟩
      obtain ⟨g, off, e, hg, hx⟩ := h (by omega)
      exact ⟨g, off, e, hg, fun i hi => hx i (by omega)⟩
    have hR := Lib.hid hr
    clear hr h
    go_enter Try.func87, Try.ntmps87
    go_wp2
    go_ret
    exact ⟨rfl, ⟨2000, by omega, hR.out _ rfl⟩, (Below.refl _ _).alloc (Nat.le_refl _) _⟩
  · have hr : ∀ o, o = .cells #[.slice A n c, .int .i64 0] 163 → Rdr (w.alloc o) w.heap.size w.heap.size A n c 0 := by
      rintro o rfl
      exact ⟨Has.new w _ _, Nat.le_refl _, h.keep ((Below.refl _ _).alloc (Nat.le_refl _) _)⟩
    have hR := Lib.hid hr
    clear hr h
    go_enter Try.func87, Try.ntmps87
    go_wp2
    go_ret
    exact ⟨rfl, ⟨n, by omega, hR.out _ rfl⟩, (Below.refl _ _).alloc (Nat.le_refl _) _⟩

def Rowd (w : World) (B R : Nat) (A : Option Addr) (n c p : Nat) (e : Ending) (w' : World) : Prop :=
  ∃ (a b d : Int) (p' : Nat), e = .returned (.agg #[.int .i64 a, .int .i64 b, .int .i64 d]) ∧ p' ≤ p + 6 ∧ Rdr w' B R A n c p' ∧ Chg w w' R

set_option maxHeartbeats 2000000 in
theorem l1Row_any (R : Nat) (A : Option Addr) (n c p B : Nat) (w : World) (h : Rdr w B R A n c p) (hp : p ≤ 999000) (hn : n ≤ 2000) (hB : B ≤ w.heap.size) :
    Calls Try.prog 174 #[.pointer (some ⟨R, 0, none⟩)] w (Rowd w B R A n c p) := by
  have hlt := h.lt
  go_enter Try.func174, Try.ntmps174
  go_wp2_with fail
  refine (pick_any R A n c p B _ _ (h.alloc hB _) (by omega) hn (by omega)).mono ?_
  rintro e w1 ⟨v1, rfl, a0, a1, hr1, hc1⟩
  go_wp2_with fail
  refine (pick_any R A n c _ B _ _ hr1 (by omega) hn (by omega)).mono ?_
  rintro e w2 ⟨v2, rfl, b0, b1, hr2, hc2⟩
  go_wp2_with fail
  refine (pick_any R A n c _ B _ _ hr2 (by omega) hn (by omega)).mono ?_
  rintro e w3 ⟨v3, rfl, d0, d1, hr3, hc3⟩
  have hC3 := ((((Chg.refl w R).alloc (.cells #[.int .i64 0, .int .i64 0, .int .i64 0] 76)).trans hc1).trans hc2).trans hc3
  have hs3 := hC3.size
  have hz3 : w.heap.size < w3.heap.size := by have h1 := hc1.size; have h2 := hc2.size; have h3 := hc3.size; simp at h1; omega
  have hres3 := (((Has.new w 76 #[.int .i64 0, .int .i64 0, .int .i64 0]).chg hc1 (by omega)).chg hc2 (by omega)).chg hc3 (by omega)
  clear hc1 hc2 hc3 h hr1 hr2
  go_wp2_with fail
  refine (pick_any R A n c _ B _ _ (hr3.alloc (by omega) _) (by omega) hn (by omega)).mono ?_
  rintro e w4 ⟨v4, rfl, e0, e1, hrd, hc4⟩
  have hz4 : w3.heap.size < w4.heap.size := by have h4 := hc4.size; simp at h4; omega
  have ho := (Has.new w3 76 #[.int .i64 v1, .int .i64 v2, .int .i64 v3]).chg hc4 (by omega)
  have hres := (hres3.alloc (.cells #[.int .i64 v1, .int .i64 v2, .int .i64 v3] 76)).chg hc4 (by omega)
  have hch := (hC3.alloc (.cells #[.int .i64 v1, .int .i64 v2, .int .i64 v3] 76)).trans hc4
  clear hres3 hC3 hc4 hr3
  by_cases hv4 : v4 = 0
  · subst hv4
    go_wp2_with fail
    refine (pick_any R A n c _ B _ _ hrd (by omega) hn (by omega)).mono ?_
    rintro e w5 ⟨v5, rfl, g0, g1, hrd5, hc5⟩
    replace ho := ho.chg hc5 (by omega)
    replace hres := hres.chg hc5 (by omega)
    replace hch := hch.trans hc5
    clear hrd hc5
    have co0 := ho.cell
    have fo0 := ho.frozen
    obtain rfl | rfl | rfl : v5 = 0 ∨ v5 = 1 ∨ v5 = 2 := by omega
    · replace ho := ho.put 0 (.int .i64 9)
      have hrd := hrd5.new (q := ⟨w3.heap.size, 0, none⟩) (by simp; omega) (by simp; omega) (.int .i64 9)
      replace hch := hch.new (q := ⟨w3.heap.size, 0, none⟩) (by simp; omega) (.int .i64 9)
      replace hres := hres.far (p := ⟨w3.heap.size, 0, none⟩) (by simp; omega) (.int .i64 9)
      have hs9 : (9 + v2 + v3 == (0 : Int)) = false := by simp; omega
      have cz := ho.cell
      have cr := hres.cell
      have fr := hres.frozen
      go_wp2
      refine bodyPost_ret (v := .agg #[.int .i64 9, .int .i64 v2, .int .i64 v3]) (by simp [results, Try.results174, go_sem, cr]) rfl ⟨_, _, _, p + 1 + 1 + 1 + 1 + 1, rfl, by omega, ?_, ?_⟩
      · exact ((hrd.new (q := ⟨w.heap.size, 0, none⟩) hB (by simp; omega) _).new (q := ⟨w.heap.size, 1, none⟩) hB (by simp; omega) _).new (q := ⟨w.heap.size, 2, none⟩) hB (by simp; omega) _
      · exact ((hch.new (q := ⟨w.heap.size, 0, none⟩) (Nat.le_refl _) _).new (q := ⟨w.heap.size, 1, none⟩) (Nat.le_refl _) _).new (q := ⟨w.heap.size, 2, none⟩) (Nat.le_refl _) _
    · replace ho := ho.put 1 (.int .i64 9)
      have hrd := hrd5.new (q := ⟨w3.heap.size, 1, none⟩) (by simp; omega) (by simp; omega) (.int .i64 9)
      replace hch := hch.new (q := ⟨w3.heap.size, 1, none⟩) (by simp; omega) (.int .i64 9)
      replace hres := hres.far (p := ⟨w3.heap.size, 1, none⟩) (by simp; omega) (.int .i64 9)
      have hs9 : (v1 + 9 + v3 == (0 : Int)) = false := by simp; omega
      have cz := ho.cell
      have cr := hres.cell
      have fr := hres.frozen
      go_wp2
      refine bodyPost_ret (v := .agg #[.int .i64 v1, .int .i64 9, .int .i64 v3]) (by simp [results, Try.results174, go_sem, cr]) rfl ⟨_, _, _, p + 1 + 1 + 1 + 1 + 1, rfl, by omega, ?_, ?_⟩
      · exact ((hrd.new (q := ⟨w.heap.size, 0, none⟩) hB (by simp; omega) _).new (q := ⟨w.heap.size, 1, none⟩) hB (by simp; omega) _).new (q := ⟨w.heap.size, 2, none⟩) hB (by simp; omega) _
      · exact ((hch.new (q := ⟨w.heap.size, 0, none⟩) (Nat.le_refl _) _).new (q := ⟨w.heap.size, 1, none⟩) (Nat.le_refl _) _).new (q := ⟨w.heap.size, 2, none⟩) (Nat.le_refl _) _
    · replace ho := ho.put 2 (.int .i64 9)
      have hrd := hrd5.new (q := ⟨w3.heap.size, 2, none⟩) (by simp; omega) (by simp; omega) (.int .i64 9)
      replace hch := hch.new (q := ⟨w3.heap.size, 2, none⟩) (by simp; omega) (.int .i64 9)
      replace hres := hres.far (p := ⟨w3.heap.size, 2, none⟩) (by simp; omega) (.int .i64 9)
      have hs9 : (v1 + v2 + 9 == (0 : Int)) = false := by simp; omega
      have cz := ho.cell
      have cr := hres.cell
      have fr := hres.frozen
      go_wp2
      refine bodyPost_ret (v := .agg #[.int .i64 v1, .int .i64 v2, .int .i64 9]) (by simp [results, Try.results174, go_sem, cr]) rfl ⟨_, _, _, p + 1 + 1 + 1 + 1 + 1, rfl, by omega, ?_, ?_⟩
      · exact ((hrd.new (q := ⟨w.heap.size, 0, none⟩) hB (by simp; omega) _).new (q := ⟨w.heap.size, 1, none⟩) hB (by simp; omega) _).new (q := ⟨w.heap.size, 2, none⟩) hB (by simp; omega) _
      · exact ((hch.new (q := ⟨w.heap.size, 0, none⟩) (Nat.le_refl _) _).new (q := ⟨w.heap.size, 1, none⟩) (Nat.le_refl _) _).new (q := ⟨w.heap.size, 2, none⟩) (Nat.le_refl _) _
  · have hv4' : (v4 == 0) = false := by simp [hv4]
    clear hv4
    cases hs : (v1 + v2 + v3 == (0 : Int))
    · skip
      have co := ho.cell
      have cr := hres.cell
      have fr := hres.frozen
      go_wp2
      refine bodyPost_ret (v := .agg #[.int .i64 v1, .int .i64 v2, .int .i64 v3]) (by simp [results, Try.results174, go_sem, cr]) rfl ⟨_, _, _, p + 1 + 1 + 1 + 1, rfl, by omega, ?_, ?_⟩
      · exact ((hrd.new (q := ⟨w.heap.size, 0, none⟩) hB (by simp; omega) _).new (q := ⟨w.heap.size, 1, none⟩) hB (by simp; omega) _).new (q := ⟨w.heap.size, 2, none⟩) hB (by simp; omega) _
      · exact ((hch.new (q := ⟨w.heap.size, 0, none⟩) (Nat.le_refl _) _).new (q := ⟨w.heap.size, 1, none⟩) (Nat.le_refl _) _).new (q := ⟨w.heap.size, 2, none⟩) (Nat.le_refl _) _
    · have co1 := ho.cell
      go_wp2_with fail
      refine (pick_any R A n c _ B _ _ hrd (by omega) hn (by omega)).mono ?_
      rintro e w6 ⟨v6, rfl, f0, f1, hrd6, hc6⟩
      replace ho := ho.chg hc6 (by omega)
      replace hres := hres.chg hc6 (by omega)
      replace hch := hch.trans hc6
      clear hrd co1 hc6
      have co2 := ho.cell
      have fo2 := ho.frozen
      obtain rfl | rfl | rfl : v6 = 0 ∨ v6 = 1 ∨ v6 = 2 := by omega
      · replace ho := ho.put 0 (.int .i64 1)
        replace hrd := hrd6.new (q := ⟨w3.heap.size, 0, none⟩) (by simp; omega) (by simp; omega) (.int .i64 1)
        replace hch := hch.new (q := ⟨w3.heap.size, 0, none⟩) (by simp; omega) (.int .i64 1)
        replace hres := hres.far (p := ⟨w3.heap.size, 0, none⟩) (by simp; omega) (.int .i64 1)
        have co := ho.cell
        have cr := hres.cell
        have fr := hres.frozen
        go_wp2
        refine bodyPost_ret (v := .agg #[.int .i64 1, .int .i64 v2, .int .i64 v3]) (by simp [results, Try.results174, go_sem, cr]) rfl ⟨_, _, _, p + 1 + 1 + 1 + 1 + 1, rfl, by omega, ?_, ?_⟩
        · exact ((hrd.new (q := ⟨w.heap.size, 0, none⟩) hB (by simp; omega) _).new (q := ⟨w.heap.size, 1, none⟩) hB (by simp; omega) _).new (q := ⟨w.heap.size, 2, none⟩) hB (by simp; omega) _
        · exact ((hch.new (q := ⟨w.heap.size, 0, none⟩) (Nat.le_refl _) _).new (q := ⟨w.heap.size, 1, none⟩) (Nat.le_refl _) _).new (q := ⟨w.heap.size, 2, none⟩) (Nat.le_refl _) _
      · replace ho := ho.put 1 (.int .i64 1)
        replace hrd := hrd6.new (q := ⟨w3.heap.size, 1, none⟩) (by simp; omega) (by simp; omega) (.int .i64 1)
        replace hch := hch.new (q := ⟨w3.heap.size, 1, none⟩) (by simp; omega) (.int .i64 1)
        replace hres := hres.far (p := ⟨w3.heap.size, 1, none⟩) (by simp; omega) (.int .i64 1)
        have co := ho.cell
        have cr := hres.cell
        have fr := hres.frozen
        go_wp2
        refine bodyPost_ret (v := .agg #[.int .i64 v1, .int .i64 1, .int .i64 v3]) (by simp [results, Try.results174, go_sem, cr]) rfl ⟨_, _, _, p + 1 + 1 + 1 + 1 + 1, rfl, by omega, ?_, ?_⟩
        · exact ((hrd.new (q := ⟨w.heap.size, 0, none⟩) hB (by simp; omega) _).new (q := ⟨w.heap.size, 1, none⟩) hB (by simp; omega) _).new (q := ⟨w.heap.size, 2, none⟩) hB (by simp; omega) _
        · exact ((hch.new (q := ⟨w.heap.size, 0, none⟩) (Nat.le_refl _) _).new (q := ⟨w.heap.size, 1, none⟩) (Nat.le_refl _) _).new (q := ⟨w.heap.size, 2, none⟩) (Nat.le_refl _) _
      · replace ho := ho.put 2 (.int .i64 1)
        replace hrd := hrd6.new (q := ⟨w3.heap.size, 2, none⟩) (by simp; omega) (by simp; omega) (.int .i64 1)
        replace hch := hch.new (q := ⟨w3.heap.size, 2, none⟩) (by simp; omega) (.int .i64 1)
        replace hres := hres.far (p := ⟨w3.heap.size, 2, none⟩) (by simp; omega) (.int .i64 1)
        have co := ho.cell
        have cr := hres.cell
        have fr := hres.frozen
        go_wp2
        refine bodyPost_ret (v := .agg #[.int .i64 v1, .int .i64 v2, .int .i64 1]) (by simp [results, Try.results174, go_sem, cr]) rfl ⟨_, _, _, p + 1 + 1 + 1 + 1 + 1, rfl, by omega, ?_, ?_⟩
        · exact ((hrd.new (q := ⟨w.heap.size, 0, none⟩) hB (by simp; omega) _).new (q := ⟨w.heap.size, 1, none⟩) hB (by simp; omega) _).new (q := ⟨w.heap.size, 2, none⟩) hB (by simp; omega) _
        · exact ((hch.new (q := ⟨w.heap.size, 0, none⟩) (Nat.le_refl _) _).new (q := ⟨w.heap.size, 1, none⟩) (Nat.le_refl _) _).new (q := ⟨w.heap.size, 2, none⟩) (Nat.le_refl _) _

end Go.Proofs.Ytbndonfpdioibaa

namespace Go.Proofs.Ytbndonfpdioibaa
set_option maxRecDepth 100000
open Go.RowKit

theorem Nums.of {w : World} {g L : Nat} {t : TypeId} {cs : Array Value} {P : Int → Prop} (h : Has w g t cs) (hP : ∀ i, i < L → ∃ v, cs[i]? = some (.int .i64 v) ∧ P v) : Nums w g L P := fun i hi => by
  obtain ⟨v, hv, hp⟩ := hP i hi
  exact ⟨v, (h.cell i).trans hv, hp⟩

/-- What a cell holds, or nothing. -/
def cellOr (w : World) (a : Addr) : Value := (w.cell? a).getD undef
theorem cellOr_of {w : World} {a : Addr} {u : Value} (h : w.cell? a = some u) : w.cell? a = some (cellOr w a) := by unfold cellOr; rw [h]; rfl
theorem store_keep {w : World} {g : Nat} {a : Value} (X : Value) (h1 : w.cell? ⟨g, 1, none⟩ = some a) (h2 : w.cell? ⟨g, 2, none⟩ = some (cellOr w ⟨g, 2, none⟩)) (h3 : w.frozen? ⟨g, 2, none⟩ = false) :
    (w.setCell ⟨g, 2, none⟩ X).cell? ⟨g, 1, none⟩ = some a ∧ (w.setCell ⟨g, 2, none⟩ X).cell? ⟨g, 2, none⟩ = some (cellOr (w.setCell ⟨g, 2, none⟩ X) ⟨g, 2, none⟩) ∧ (w.setCell ⟨g, 2, none⟩ X).frozen? ⟨g, 2, none⟩ = false := by
  refine ⟨?_, cellOr_of (u := X) ?_, ?_⟩
  · rw [World.cell?_setCell_other _ _ _ _ (by intro e; injection e with _ e2 _; omega)]; exact h1
  · simp [go_sem, h2]
  · simp [go_sem, h3]

def Stmtd (w : World) (B R : Nat) (A : Option Addr) (n c p : Nat) (e : Ending) (w' : World) : Prop :=
  ∃ (k a b d u v x : Int) (p' : Nat), e = .returned (.agg #[.int .i64 k, .int .i64 a, .int .i64 b, .int .i64 d, .int .i64 u, .int .i64 v, .int .i64 x]) ∧ p' ≤ p + 12 ∧ Rdr w' B R A n c p' ∧ Chg w w' R

set_option maxHeartbeats 4000000 in
theorem l1Stmt_any (R : Nat) (A : Option Addr) (n c p B : Nat) (w : World) (h : Rdr w B R A n c p) (hp : p ≤ 900000) (hn : n ≤ 2000) (hB : B ≤ w.heap.size) :
    Calls Try.prog 173 #[.pointer (some ⟨R, 0, none⟩)] w (Stmtd w B R A n c p) := by
  have hlt := h.lt
  have hx1 : Has ((w.alloc (.cells #[.int .i64 0, .int .i64 0, .int .i64 0, .int .i64 0, .int .i64 0, .int .i64 0, .int .i64 0] 78)).alloc (.cells #[.int .i64 2, .int .i64 2, .int .i64 2, .int .i64 3, .int .i64 3, .int .i64 4, .int .i64 5, .int .i64 0, .int .i64 1, .int .i64 6] 3)) (w.heap.size + 1) 3 #[.int .i64 2, .int .i64 2, .int .i64 2, .int .i64 3, .int .i64 3, .int .i64 4, .int .i64 5, .int .i64 0, .int .i64 1, .int .i64 6] := by
    have := Has.new (w.alloc (.cells #[.int .i64 0, .int .i64 0, .int .i64 0, .int .i64 0, .int .i64 0, .int .i64 0, .int .i64 0] 78)) 3 #[.int .i64 2, .int .i64 2, .int .i64 2, .int .i64 3, .int .i64 3, .int .i64 4, .int .i64 5, .int .i64 0, .int .i64 1, .int .i64 6]
    simpa using this
  have hN1 : Nums ((w.alloc (.cells #[.int .i64 0, .int .i64 0, .int .i64 0, .int .i64 0, .int .i64 0, .int .i64 0, .int .i64 0] 78)).alloc (.cells #[.int .i64 2, .int .i64 2, .int .i64 2, .int .i64 3, .int .i64 3, .int .i64 4, .int .i64 5, .int .i64 0, .int .i64 1, .int .i64 6] 3)) (w.heap.size + 1) 10 (fun k => 0 ≤ k ∧ k ≤ 6) := Nums.of hx1 (fun i hi => by
    obtain rfl | rfl | rfl | rfl | rfl | rfl | rfl | rfl | rfl | rfl : i = 0 ∨ i = 1 ∨ i = 2 ∨ i = 3 ∨ i = 4 ∨ i = 5 ∨ i = 6 ∨ i = 7 ∨ i = 8 ∨ i = 9 := by omega
    all_goals exact ⟨_, rfl, by omega, by omega⟩)
  have hN1 := Lib.hid hN1
  clear hx1
  go_enter Try.func173, Try.ntmps173
  go_wp2_with fail
  refine (num_any R A n c p B (w.heap.size + 1) 10 _ (fun k => 0 ≤ k ∧ k ≤ 6) _ ((h.alloc hB _).alloc (by simp; omega) _) (by omega) hn (by omega) (by omega) (by simp) (by omega) hN1.out).mono ?_
  rintro e w1 ⟨k, rfl, ⟨k0, k6⟩, hr1, hc1⟩
  have hC1 := (((Chg.refl w R).alloc (.cells #[.int .i64 0, .int .i64 0, .int .i64 0, .int .i64 0, .int .i64 0, .int .i64 0, .int .i64 0] 78)).alloc (.cells #[.int .i64 2, .int .i64 2, .int .i64 2, .int .i64 3, .int .i64 3, .int .i64 4, .int .i64 5, .int .i64 0, .int .i64 1, .int .i64 6] 3)).trans hc1
  have hz1 : w.heap.size < w1.heap.size := by have h1 := hc1.size; simp at h1; omega
  have hres1 := ((Has.new w 78 #[.int .i64 0, .int .i64 0, .int .i64 0, .int .i64 0, .int .i64 0, .int .i64 0, .int .i64 0]).alloc (.cells #[.int .i64 2, .int .i64 2, .int .i64 2, .int .i64 3, .int .i64 3, .int .i64 4, .int .i64 5, .int .i64 0, .int .i64 1, .int .i64 6] 3)).chg hc1 (by omega)
  clear hc1 h hN1
  have hN2 : Nums (w1.alloc (.cells #[.int .i64 0, .int .i64 1, .int .i64 0, .int .i64 1, .int .i64 2, .int .i64 3] 3)) w1.heap.size 6 (fun k => 0 ≤ k ∧ k ≤ 3) := Nums.of (Has.new w1 3 #[.int .i64 0, .int .i64 1, .int .i64 0, .int .i64 1, .int .i64 2, .int .i64 3]) (fun i hi => by
    obtain rfl | rfl | rfl | rfl | rfl | rfl : i = 0 ∨ i = 1 ∨ i = 2 ∨ i = 3 ∨ i = 4 ∨ i = 5 := by omega
    all_goals exact ⟨_, rfl, by omega, by omega⟩)
  have hN2 := Lib.hid hN2
  go_wp2_with fail
  refine (num_any R A n c _ B w1.heap.size 6 _ (fun k => 0 ≤ k ∧ k ≤ 3) _ (hr1.alloc (by omega) _) (by omega) hn (by omega) (by omega) (by simp) (by omega) hN2.out).mono ?_
  rintro e w2 ⟨a, rfl, ⟨a0, a3⟩, hr2, hc2⟩
  have hch := (hC1.alloc (.cells #[.int .i64 0, .int .i64 1, .int .i64 0, .int .i64 1, .int .i64 2, .int .i64 3] 3)).trans hc2
  have hz2 : w1.heap.size < w2.heap.size := by have h1 := hc2.size; simp at h1; omega
  have hres := (hres1.alloc (.cells #[.int .i64 0, .int .i64 1, .int .i64 0, .int .i64 1, .int .i64 2, .int .i64 3] 3)).chg hc2 (by omega)
  have ho := Has.new w2 78 #[.int .i64 k, .int .i64 a, .int .i64 0, .int .i64 0, .int .i64 0, .int .i64 0, .int .i64 0]
  have hrd := hr2.alloc (by omega) (.cells #[.int .i64 k, .int .i64 a, .int .i64 0, .int .i64 0, .int .i64 0, .int .i64 0, .int .i64 0] 78)
  replace hres := hres.alloc (.cells #[.int .i64 k, .int .i64 a, .int .i64 0, .int .i64 0, .int .i64 0, .int .i64 0, .int .i64 0] 78)
  replace hch := hch.alloc (.cells #[.int .i64 k, .int .i64 a, .int .i64 0, .int .i64 0, .int .i64 0, .int .i64 0, .int .i64 0] 78)
  clear hC1 hc2 hres1 hr1 hr2 hN2
  obtain rfl | rfl | rfl | rfl | rfl | rfl | rfl : k = 0 ∨ k = 1 ∨ k = 2 ∨ k = 3 ∨ k = 4 ∨ k = 5 ∨ k = 6 := by omega
  · go_wp2_with fail
    refine (pick_any R A n c _ B _ _ hrd (by omega) hn (by omega)).mono ?_
    rintro e q1 ⟨v1, rfl, lo1, hi1, hrq, hcq⟩
    replace ho := ho.chg hcq (by omega)
    replace hres := hres.chg hcq (by omega)
    replace hch := hch.trans hcq
    clear hcq
    have co := ho.cell
    have fo := ho.frozen
    replace ho := ho.put 2 (.int .i64 (v1 - 1))
    replace hrd := hrq.new (q := ⟨w2.heap.size, 2, none⟩) (by simp; omega) (by simp; omega) (.int .i64 (v1 - 1))
    replace hch := hch.new (q := ⟨w2.heap.size, 2, none⟩) (by simp; omega) (.int .i64 (v1 - 1))
    replace hres := hres.far (p := ⟨w2.heap.size, 2, none⟩) (by simp; omega) (.int .i64 (v1 - 1))
    clear hrq
    go_wp2_with fail
    refine (pick_any R A n c _ B _ _ hrd (by omega) hn (by omega)).mono ?_
    rintro e q2 ⟨v2, rfl, lo2, hi2, hrq, hcq⟩
    replace ho := ho.chg hcq (by omega)
    replace hres := hres.chg hcq (by omega)
    replace hch := hch.trans hcq
    clear hcq
    have co := ho.cell
    have fo := ho.frozen
    replace ho := ho.put 3 (.int .i64 (v2))
    replace hrd := hrq.new (q := ⟨w2.heap.size, 3, none⟩) (by simp; omega) (by simp; omega) (.int .i64 (v2))
    replace hch := hch.new (q := ⟨w2.heap.size, 3, none⟩) (by simp; omega) (.int .i64 (v2))
    replace hres := hres.far (p := ⟨w2.heap.size, 3, none⟩) (by simp; omega) (.int .i64 (v2))
    clear hrq
    have co := ho.cell
    have cr := hres.cell
    have fr := hres.frozen
    go_wp2
    refine bodyPost_ret (v := .agg #[.int .i64 (0), .int .i64 (a), .int .i64 (v1 - 1), .int .i64 (v2), .int .i64 (0), .int .i64 (0), .int .i64 (0)]) (by simp [results, Try.results173, go_sem, cr]) rfl ⟨_, _, _, _, _, _, _, p + 1 + 1 + 1 + 1, rfl, by omega, ?_, ?_⟩
    · exact (((((((hrd.new (q := ⟨w.heap.size, 0, none⟩) hB (by simp; omega) _).new (q := ⟨w.heap.size, 1, none⟩) hB (by simp; omega) _).new (q := ⟨w.heap.size, 2, none⟩) hB (by simp; omega) _).new (q := ⟨w.heap.size, 3, none⟩) hB (by simp; omega) _).new (q := ⟨w.heap.size, 4, none⟩) hB (by simp; omega) _).new (q := ⟨w.heap.size, 5, none⟩) hB (by simp; omega) _).new (q := ⟨w.heap.size, 6, none⟩) hB (by simp; omega) _)
    · exact (((((((hch.new (q := ⟨w.heap.size, 0, none⟩) (Nat.le_refl _) _).new (q := ⟨w.heap.size, 1, none⟩) (Nat.le_refl _) _).new (q := ⟨w.heap.size, 2, none⟩) (Nat.le_refl _) _).new (q := ⟨w.heap.size, 3, none⟩) (Nat.le_refl _) _).new (q := ⟨w.heap.size, 4, none⟩) (Nat.le_refl _) _).new (q := ⟨w.heap.size, 5, none⟩) (Nat.le_refl _) _).new (q := ⟨w.heap.size, 6, none⟩) (Nat.le_refl _) _)
  · have ca := ho.cell 1
    have cb := cellOr_of (ho.cell 2)
    have fb := ho.frozen 2
    go_wp2_with fail
    go_region_held3 (fun wx => wx.cell? ⟨w2.heap.size, 1, none⟩ = some (.int .i64 a) ∧ wx.cell? ⟨w2.heap.size, 2, none⟩ = some (cellOr wx ⟨w2.heap.size, 2, none⟩) ∧ wx.frozen? ⟨w2.heap.size, 2, none⟩ = false) (first | exact ⟨Has.cell (Has.chg (by exact ho) hcq (by omega)) 1, cellOr_of (Has.cell (Has.chg (by exact ho) hcq (by omega)) 2), Has.frozen (Has.chg (by exact ho) hcq (by omega)) 2⟩ | exact ⟨Has.cell (by exact ho) 1, cellOr_of (Has.cell (by exact ho) 2), Has.frozen (by exact ho) 2⟩ | exact store_keep (w := q1) _ (Has.cell (Has.chg (by exact ho) hcq (by omega)) 1) (cellOr_of (Has.cell (Has.chg (by exact ho) hcq (by omega)) 2)) (Has.frozen (Has.chg (by exact ho) hcq (by omega)) 2) | go_keep) ((go_at_call 137; refine (pick_any R A n c (p + 1 + 1) B _ _ (by exact ⟨hrd.1, hrd.2.1, hrd.2.2⟩) (by omega) hn (by omega)).mono ?_; rintro e q1 ⟨v1, rfl, lo1, hi1, hrq, hcq⟩))
    replace ho := Has.chg (by exact ho) hcq (by omega)
    replace hres := Has.chg (by exact hres) hcq (by omega)
    replace hch := Chg.trans (by exact ⟨hch.os, hch.tape, hch.output, hch.size, hch.block⟩) hcq
    clear hcq ca cb fb
    generalize (IntKind.i64.wrap (IntKind.i64.wrap (a + 1) + v1)).tmod 4 = bv
    replace ho := ho.put 2 (.int .i64 (bv))
    replace hrd := hrq.new (q := ⟨w2.heap.size, 2, none⟩) (by simp; omega) (by simp; omega) (.int .i64 (bv))
    replace hch := hch.new (q := ⟨w2.heap.size, 2, none⟩) (by simp; omega) (.int .i64 (bv))
    replace hres := hres.far (p := ⟨w2.heap.size, 2, none⟩) (by simp; omega) (.int .i64 (bv))
    clear hrq
    have co := ho.cell
    have cr := hres.cell
    have fr := hres.frozen
    go_wp2
    refine bodyPost_ret (v := .agg #[.int .i64 (1), .int .i64 (a), .int .i64 (bv), .int .i64 (0), .int .i64 (0), .int .i64 (0), .int .i64 (0)]) (by simp [results, Try.results173, go_sem, cr]) rfl ⟨_, _, _, _, _, _, _, p + 1 + 1 + 1, rfl, by omega, ?_, ?_⟩
    · exact (((((((hrd.new (q := ⟨w.heap.size, 0, none⟩) hB (by simp; omega) _).new (q := ⟨w.heap.size, 1, none⟩) hB (by simp; omega) _).new (q := ⟨w.heap.size, 2, none⟩) hB (by simp; omega) _).new (q := ⟨w.heap.size, 3, none⟩) hB (by simp; omega) _).new (q := ⟨w.heap.size, 4, none⟩) hB (by simp; omega) _).new (q := ⟨w.heap.size, 5, none⟩) hB (by simp; omega) _).new (q := ⟨w.heap.size, 6, none⟩) hB (by simp; omega) _)
    · exact (((((((hch.new (q := ⟨w.heap.size, 0, none⟩) (Nat.le_refl _) _).new (q := ⟨w.heap.size, 1, none⟩) (Nat.le_refl _) _).new (q := ⟨w.heap.size, 2, none⟩) (Nat.le_refl _) _).new (q := ⟨w.heap.size, 3, none⟩) (Nat.le_refl _) _).new (q := ⟨w.heap.size, 4, none⟩) (Nat.le_refl _) _).new (q := ⟨w.heap.size, 5, none⟩) (Nat.le_refl _) _).new (q := ⟨w.heap.size, 6, none⟩) (Nat.le_refl _) _)
  · go_wp2_with fail
    refine (l1Row_any R A n c _ B _ hrd (by omega) hn (by have := hch.size; omega)).mono ?_
    rintro e q1 ⟨ra, rb, rc, pr, rfl, hpr, hrq, hcq⟩
    replace ho := ho.chg hcq (by omega)
    replace hres := hres.chg hcq (by omega)
    replace hch := hch.trans hcq
    clear hcq
    have co := ho.cell
    have fo := ho.frozen
    have hrd := hrq
    clear hrq
    replace ho := ho.put 4 (.int .i64 (ra))
    replace hrd := hrd.new (q := ⟨w2.heap.size, 4, none⟩) (by simp; omega) (by simp; omega) (.int .i64 (ra))
    replace hch := hch.new (q := ⟨w2.heap.size, 4, none⟩) (by simp; omega) (.int .i64 (ra))
    replace hres := hres.far (p := ⟨w2.heap.size, 4, none⟩) (by simp; omega) (.int .i64 (ra))
    replace ho := ho.put 5 (.int .i64 (rb))
    replace hrd := hrd.new (q := ⟨w2.heap.size, 5, none⟩) (by simp; omega) (by simp; omega) (.int .i64 (rb))
    replace hch := hch.new (q := ⟨w2.heap.size, 5, none⟩) (by simp; omega) (.int .i64 (rb))
    replace hres := hres.far (p := ⟨w2.heap.size, 5, none⟩) (by simp; omega) (.int .i64 (rb))
    replace ho := ho.put 6 (.int .i64 (rc))
    replace hrd := hrd.new (q := ⟨w2.heap.size, 6, none⟩) (by simp; omega) (by simp; omega) (.int .i64 (rc))
    replace hch := hch.new (q := ⟨w2.heap.size, 6, none⟩) (by simp; omega) (.int .i64 (rc))
    replace hres := hres.far (p := ⟨w2.heap.size, 6, none⟩) (by simp; omega) (.int .i64 (rc))
    have co := ho.cell
    have cr := hres.cell
    have fr := hres.frozen
    go_wp2
    refine bodyPost_ret (v := .agg #[.int .i64 (2), .int .i64 (a), .int .i64 (0), .int .i64 (0), .int .i64 (ra), .int .i64 (rb), .int .i64 (rc)]) (by simp [results, Try.results173, go_sem, cr]) rfl ⟨_, _, _, _, _, _, _, pr, rfl, by omega, ?_, ?_⟩
    · exact (((((((hrd.new (q := ⟨w.heap.size, 0, none⟩) hB (by simp; omega) _).new (q := ⟨w.heap.size, 1, none⟩) hB (by simp; omega) _).new (q := ⟨w.heap.size, 2, none⟩) hB (by simp; omega) _).new (q := ⟨w.heap.size, 3, none⟩) hB (by simp; omega) _).new (q := ⟨w.heap.size, 4, none⟩) hB (by simp; omega) _).new (q := ⟨w.heap.size, 5, none⟩) hB (by simp; omega) _).new (q := ⟨w.heap.size, 6, none⟩) hB (by simp; omega) _)
    · exact (((((((hch.new (q := ⟨w.heap.size, 0, none⟩) (Nat.le_refl _) _).new (q := ⟨w.heap.size, 1, none⟩) (Nat.le_refl _) _).new (q := ⟨w.heap.size, 2, none⟩) (Nat.le_refl _) _).new (q := ⟨w.heap.size, 3, none⟩) (Nat.le_refl _) _).new (q := ⟨w.heap.size, 4, none⟩) (Nat.le_refl _) _).new (q := ⟨w.heap.size, 5, none⟩) (Nat.le_refl _) _).new (q := ⟨w.heap.size, 6, none⟩) (Nat.le_refl _) _)
  · have ca := ho.cell 1
    have cb := cellOr_of (ho.cell 2)
    have fb := ho.frozen 2
    go_wp2_with fail
    go_region_held3 (fun wx => wx.cell? ⟨w2.heap.size, 1, none⟩ = some (.int .i64 a) ∧ wx.cell? ⟨w2.heap.size, 2, none⟩ = some (cellOr wx ⟨w2.heap.size, 2, none⟩) ∧ wx.frozen? ⟨w2.heap.size, 2, none⟩ = false) (first | exact ⟨Has.cell (Has.chg (by exact ho) hcq (by omega)) 1, cellOr_of (Has.cell (Has.chg (by exact ho) hcq (by omega)) 2), Has.frozen (Has.chg (by exact ho) hcq (by omega)) 2⟩ | exact ⟨Has.cell (by exact ho) 1, cellOr_of (Has.cell (by exact ho) 2), Has.frozen (by exact ho) 2⟩ | exact store_keep (w := q1) _ (Has.cell (Has.chg (by exact ho) hcq (by omega)) 1) (cellOr_of (Has.cell (Has.chg (by exact ho) hcq (by omega)) 2)) (Has.frozen (Has.chg (by exact ho) hcq (by omega)) 2) | go_keep) ((go_at_call 137; refine (pick_any R A n c (p + 1 + 1) B _ _ (by exact ⟨hrd.1, hrd.2.1, hrd.2.2⟩) (by omega) hn (by omega)).mono ?_; rintro e q1 ⟨v1, rfl, lo1, hi1, hrq, hcq⟩))
    replace ho := Has.chg (by exact ho) hcq (by omega)
    replace hres := Has.chg (by exact hres) hcq (by omega)
    replace hch := Chg.trans (by exact ⟨hch.os, hch.tape, hch.output, hch.size, hch.block⟩) hcq
    clear hcq ca cb fb
    generalize (IntKind.i64.wrap (IntKind.i64.wrap (a + 1) + v1)).tmod 4 = bv
    replace ho := ho.put 2 (.int .i64 (bv))
    replace hrd := hrq.new (q := ⟨w2.heap.size, 2, none⟩) (by simp; omega) (by simp; omega) (.int .i64 (bv))
    replace hch := hch.new (q := ⟨w2.heap.size, 2, none⟩) (by simp; omega) (.int .i64 (bv))
    replace hres := hres.far (p := ⟨w2.heap.size, 2, none⟩) (by simp; omega) (.int .i64 (bv))
    clear hrq
    go_wp2_with fail
    refine (l1Row_any R A n c _ B _ hrd (by omega) hn (by have := hch.size; omega)).mono ?_
    rintro e q2 ⟨ra, rb, rc, pr, rfl, hpr, hrq, hcq⟩
    replace ho := ho.chg hcq (by omega)
    replace hres := hres.chg hcq (by omega)
    replace hch := hch.trans hcq
    clear hcq
    have co := ho.cell
    have fo := ho.frozen
    have hrd := hrq
    clear hrq
    replace ho := ho.put 4 (.int .i64 (ra))
    replace hrd := hrd.new (q := ⟨w2.heap.size, 4, none⟩) (by simp; omega) (by simp; omega) (.int .i64 (ra))
    replace hch := hch.new (q := ⟨w2.heap.size, 4, none⟩) (by simp; omega) (.int .i64 (ra))
    replace hres := hres.far (p := ⟨w2.heap.size, 4, none⟩) (by simp; omega) (.int .i64 (ra))
    replace ho := ho.put 5 (.int .i64 (rb))
    replace hrd := hrd.new (q := ⟨w2.heap.size, 5, none⟩) (by simp; omega) (by simp; omega) (.int .i64 (rb))
    replace hch := hch.new (q := ⟨w2.heap.size, 5, none⟩) (by simp; omega) (.int .i64 (rb))
    replace hres := hres.far (p := ⟨w2.heap.size, 5, none⟩) (by simp; omega) (.int .i64 (rb))
    replace ho := ho.put 6 (.int .i64 (rc))
    replace hrd := hrd.new (q := ⟨w2.heap.size, 6, none⟩) (by simp; omega) (by simp; omega) (.int .i64 (rc))
    replace hch := hch.new (q := ⟨w2.heap.size, 6, none⟩) (by simp; omega) (.int .i64 (rc))
    replace hres := hres.far (p := ⟨w2.heap.size, 6, none⟩) (by simp; omega) (.int .i64 (rc))
    have co := ho.cell
    have cr := hres.cell
    have fr := hres.frozen
    go_wp2
    refine bodyPost_ret (v := .agg #[.int .i64 (3), .int .i64 (a), .int .i64 (bv), .int .i64 (0), .int .i64 (ra), .int .i64 (rb), .int .i64 (rc)]) (by simp [results, Try.results173, go_sem, cr]) rfl ⟨_, _, _, _, _, _, _, pr, rfl, by omega, ?_, ?_⟩
    · exact (((((((hrd.new (q := ⟨w.heap.size, 0, none⟩) hB (by simp; omega) _).new (q := ⟨w.heap.size, 1, none⟩) hB (by simp; omega) _).new (q := ⟨w.heap.size, 2, none⟩) hB (by simp; omega) _).new (q := ⟨w.heap.size, 3, none⟩) hB (by simp; omega) _).new (q := ⟨w.heap.size, 4, none⟩) hB (by simp; omega) _).new (q := ⟨w.heap.size, 5, none⟩) hB (by simp; omega) _).new (q := ⟨w.heap.size, 6, none⟩) hB (by simp; omega) _)
    · exact (((((((hch.new (q := ⟨w.heap.size, 0, none⟩) (Nat.le_refl _) _).new (q := ⟨w.heap.size, 1, none⟩) (Nat.le_refl _) _).new (q := ⟨w.heap.size, 2, none⟩) (Nat.le_refl _) _).new (q := ⟨w.heap.size, 3, none⟩) (Nat.le_refl _) _).new (q := ⟨w.heap.size, 4, none⟩) (Nat.le_refl _) _).new (q := ⟨w.heap.size, 5, none⟩) (Nat.le_refl _) _).new (q := ⟨w.heap.size, 6, none⟩) (Nat.le_refl _) _)
  · go_wp2_with fail
    refine (l1Row_any R A n c _ B _ hrd (by omega) hn (by have := hch.size; omega)).mono ?_
    rintro e q1 ⟨ra, rb, rc, pr, rfl, hpr, hrq, hcq⟩
    replace ho := ho.chg hcq (by omega)
    replace hres := hres.chg hcq (by omega)
    replace hch := hch.trans hcq
    clear hcq
    have co := ho.cell
    have fo := ho.frozen
    have hrd := hrq
    clear hrq
    replace ho := ho.put 4 (.int .i64 (ra))
    replace hrd := hrd.new (q := ⟨w2.heap.size, 4, none⟩) (by simp; omega) (by simp; omega) (.int .i64 (ra))
    replace hch := hch.new (q := ⟨w2.heap.size, 4, none⟩) (by simp; omega) (.int .i64 (ra))
    replace hres := hres.far (p := ⟨w2.heap.size, 4, none⟩) (by simp; omega) (.int .i64 (ra))
    replace ho := ho.put 5 (.int .i64 (rb))
    replace hrd := hrd.new (q := ⟨w2.heap.size, 5, none⟩) (by simp; omega) (by simp; omega) (.int .i64 (rb))
    replace hch := hch.new (q := ⟨w2.heap.size, 5, none⟩) (by simp; omega) (.int .i64 (rb))
    replace hres := hres.far (p := ⟨w2.heap.size, 5, none⟩) (by simp; omega) (.int .i64 (rb))
    replace ho := ho.put 6 (.int .i64 (rc))
    replace hrd := hrd.new (q := ⟨w2.heap.size, 6, none⟩) (by simp; omega) (by simp; omega) (.int .i64 (rc))
    replace hch := hch.new (q := ⟨w2.heap.size, 6, none⟩) (by simp; omega) (.int .i64 (rc))
    replace hres := hres.far (p := ⟨w2.heap.size, 6, none⟩) (by simp; omega) (.int .i64 (rc))
    have co := ho.cell
    have cr := hres.cell
    have fr := hres.frozen
    go_wp2
    refine bodyPost_ret (v := .agg #[.int .i64 (4), .int .i64 (a), .int .i64 (0), .int .i64 (0), .int .i64 (ra), .int .i64 (rb), .int .i64 (rc)]) (by simp [results, Try.results173, go_sem, cr]) rfl ⟨_, _, _, _, _, _, _, pr, rfl, by omega, ?_, ?_⟩
    · exact (((((((hrd.new (q := ⟨w.heap.size, 0, none⟩) hB (by simp; omega) _).new (q := ⟨w.heap.size, 1, none⟩) hB (by simp; omega) _).new (q := ⟨w.heap.size, 2, none⟩) hB (by simp; omega) _).new (q := ⟨w.heap.size, 3, none⟩) hB (by simp; omega) _).new (q := ⟨w.heap.size, 4, none⟩) hB (by simp; omega) _).new (q := ⟨w.heap.size, 5, none⟩) hB (by simp; omega) _).new (q := ⟨w.heap.size, 6, none⟩) hB (by simp; omega) _)
    · exact (((((((hch.new (q := ⟨w.heap.size, 0, none⟩) (Nat.le_refl _) _).new (q := ⟨w.heap.size, 1, none⟩) (Nat.le_refl _) _).new (q := ⟨w.heap.size, 2, none⟩) (Nat.le_refl _) _).new (q := ⟨w.heap.size, 3, none⟩) (Nat.le_refl _) _).new (q := ⟨w.heap.size, 4, none⟩) (Nat.le_refl _) _).new (q := ⟨w.heap.size, 5, none⟩) (Nat.le_refl _) _).new (q := ⟨w.heap.size, 6, none⟩) (Nat.le_refl _) _)
  · have ca := ho.cell 1
    have cb := cellOr_of (ho.cell 2)
    have fb := ho.frozen 2
    go_wp2_with fail
    go_region_held3 (fun wx => wx.cell? ⟨w2.heap.size, 1, none⟩ = some (.int .i64 a) ∧ wx.cell? ⟨w2.heap.size, 2, none⟩ = some (cellOr wx ⟨w2.heap.size, 2, none⟩) ∧ wx.frozen? ⟨w2.heap.size, 2, none⟩ = false) (first | exact ⟨Has.cell (Has.chg (by exact ho) hcq (by omega)) 1, cellOr_of (Has.cell (Has.chg (by exact ho) hcq (by omega)) 2), Has.frozen (Has.chg (by exact ho) hcq (by omega)) 2⟩ | exact ⟨Has.cell (by exact ho) 1, cellOr_of (Has.cell (by exact ho) 2), Has.frozen (by exact ho) 2⟩ | exact store_keep (w := q1) _ (Has.cell (Has.chg (by exact ho) hcq (by omega)) 1) (cellOr_of (Has.cell (Has.chg (by exact ho) hcq (by omega)) 2)) (Has.frozen (Has.chg (by exact ho) hcq (by omega)) 2) | go_keep) ((go_at_call 137; refine (pick_any R A n c (p + 1 + 1) B _ _ (by exact ⟨hrd.1, hrd.2.1, hrd.2.2⟩) (by omega) hn (by omega)).mono ?_; rintro e q1 ⟨v1, rfl, lo1, hi1, hrq, hcq⟩))
    replace ho := Has.chg (by exact ho) hcq (by omega)
    replace hres := Has.chg (by exact hres) hcq (by omega)
    replace hch := Chg.trans (by exact ⟨hch.os, hch.tape, hch.output, hch.size, hch.block⟩) hcq
    clear hcq ca cb fb
    generalize (IntKind.i64.wrap (IntKind.i64.wrap (a + 1) + v1)).tmod 4 = bv
    replace ho := ho.put 2 (.int .i64 (bv))
    replace hrd := hrq.new (q := ⟨w2.heap.size, 2, none⟩) (by simp; omega) (by simp; omega) (.int .i64 (bv))
    replace hch := hch.new (q := ⟨w2.heap.size, 2, none⟩) (by simp; omega) (.int .i64 (bv))
    replace hres := hres.far (p := ⟨w2.heap.size, 2, none⟩) (by simp; omega) (.int .i64 (bv))
    clear hrq
    go_wp2_with fail
    refine (l1Row_any R A n c _ B _ hrd (by omega) hn (by have := hch.size; omega)).mono ?_
    rintro e q2 ⟨ra, rb, rc, pr, rfl, hpr, hrq, hcq⟩
    replace ho := ho.chg hcq (by omega)
    replace hres := hres.chg hcq (by omega)
    replace hch := hch.trans hcq
    clear hcq
    have co := ho.cell
    have fo := ho.frozen
    have hrd := hrq
    clear hrq
    replace ho := ho.put 4 (.int .i64 (ra))
    replace hrd := hrd.new (q := ⟨w2.heap.size, 4, none⟩) (by simp; omega) (by simp; omega) (.int .i64 (ra))
    replace hch := hch.new (q := ⟨w2.heap.size, 4, none⟩) (by simp; omega) (.int .i64 (ra))
    replace hres := hres.far (p := ⟨w2.heap.size, 4, none⟩) (by simp; omega) (.int .i64 (ra))
    replace ho := ho.put 5 (.int .i64 (rb))
    replace hrd := hrd.new (q := ⟨w2.heap.size, 5, none⟩) (by simp; omega) (by simp; omega) (.int .i64 (rb))
    replace hch := hch.new (q := ⟨w2.heap.size, 5, none⟩) (by simp; omega) (.int .i64 (rb))
    replace hres := hres.far (p := ⟨w2.heap.size, 5, none⟩) (by simp; omega) (.int .i64 (rb))
    replace ho := ho.put 6 (.int .i64 (rc))
    replace hrd := hrd.new (q := ⟨w2.heap.size, 6, none⟩) (by simp; omega) (by simp; omega) (.int .i64 (rc))
    replace hch := hch.new (q := ⟨w2.heap.size, 6, none⟩) (by simp; omega) (.int .i64 (rc))
    replace hres := hres.far (p := ⟨w2.heap.size, 6, none⟩) (by simp; omega) (.int .i64 (rc))
    have co := ho.cell
    have cr := hres.cell
    have fr := hres.frozen
    go_wp2
    refine bodyPost_ret (v := .agg #[.int .i64 (5), .int .i64 (a), .int .i64 (bv), .int .i64 (0), .int .i64 (ra), .int .i64 (rb), .int .i64 (rc)]) (by simp [results, Try.results173, go_sem, cr]) rfl ⟨_, _, _, _, _, _, _, pr, rfl, by omega, ?_, ?_⟩
    · exact (((((((hrd.new (q := ⟨w.heap.size, 0, none⟩) hB (by simp; omega) _).new (q := ⟨w.heap.size, 1, none⟩) hB (by simp; omega) _).new (q := ⟨w.heap.size, 2, none⟩) hB (by simp; omega) _).new (q := ⟨w.heap.size, 3, none⟩) hB (by simp; omega) _).new (q := ⟨w.heap.size, 4, none⟩) hB (by simp; omega) _).new (q := ⟨w.heap.size, 5, none⟩) hB (by simp; omega) _).new (q := ⟨w.heap.size, 6, none⟩) hB (by simp; omega) _)
    · exact (((((((hch.new (q := ⟨w.heap.size, 0, none⟩) (Nat.le_refl _) _).new (q := ⟨w.heap.size, 1, none⟩) (Nat.le_refl _) _).new (q := ⟨w.heap.size, 2, none⟩) (Nat.le_refl _) _).new (q := ⟨w.heap.size, 3, none⟩) (Nat.le_refl _) _).new (q := ⟨w.heap.size, 4, none⟩) (Nat.le_refl _) _).new (q := ⟨w.heap.size, 5, none⟩) (Nat.le_refl _) _).new (q := ⟨w.heap.size, 6, none⟩) (Nat.le_refl _) _)
  · go_wp2_with fail
    refine (pick_any R A n c _ B _ _ hrd (by omega) hn (by omega)).mono ?_
    rintro e q1 ⟨v1, rfl, lo1, hi1, hrq, hcq⟩
    replace ho := ho.chg hcq (by omega)
    replace hres := hres.chg hcq (by omega)
    replace hch := hch.trans hcq
    clear hcq
    have co := ho.cell
    have fo := ho.frozen
    replace ho := ho.put 2 (.int .i64 (1 + v1))
    replace hrd := hrq.new (q := ⟨w2.heap.size, 2, none⟩) (by simp; omega) (by simp; omega) (.int .i64 (1 + v1))
    replace hch := hch.new (q := ⟨w2.heap.size, 2, none⟩) (by simp; omega) (.int .i64 (1 + v1))
    replace hres := hres.far (p := ⟨w2.heap.size, 2, none⟩) (by simp; omega) (.int .i64 (1 + v1))
    clear hrq
    go_wp2_with fail
    refine (pick_any R A n c _ B _ _ hrd (by omega) hn (by omega)).mono ?_
    rintro e q2 ⟨v2, rfl, lo2, hi2, hrq, hcq⟩
    replace ho := ho.chg hcq (by omega)
    replace hres := hres.chg hcq (by omega)
    replace hch := hch.trans hcq
    clear hcq
    have co := ho.cell
    have fo := ho.frozen
    replace ho := ho.put 3 (.int .i64 (v2))
    replace hrd := hrq.new (q := ⟨w2.heap.size, 3, none⟩) (by simp; omega) (by simp; omega) (.int .i64 (v2))
    replace hch := hch.new (q := ⟨w2.heap.size, 3, none⟩) (by simp; omega) (.int .i64 (v2))
    replace hres := hres.far (p := ⟨w2.heap.size, 3, none⟩) (by simp; omega) (.int .i64 (v2))
    clear hrq
    have co := ho.cell
    have cr := hres.cell
    have fr := hres.frozen
    go_wp2
    refine bodyPost_ret (v := .agg #[.int .i64 (6), .int .i64 (a), .int .i64 (1 + v1), .int .i64 (v2), .int .i64 (0), .int .i64 (0), .int .i64 (0)]) (by simp [results, Try.results173, go_sem, cr]) rfl ⟨_, _, _, _, _, _, _, p + 1 + 1 + 1 + 1, rfl, by omega, ?_, ?_⟩
    · exact (((((((hrd.new (q := ⟨w.heap.size, 0, none⟩) hB (by simp; omega) _).new (q := ⟨w.heap.size, 1, none⟩) hB (by simp; omega) _).new (q := ⟨w.heap.size, 2, none⟩) hB (by simp; omega) _).new (q := ⟨w.heap.size, 3, none⟩) hB (by simp; omega) _).new (q := ⟨w.heap.size, 4, none⟩) hB (by simp; omega) _).new (q := ⟨w.heap.size, 5, none⟩) hB (by simp; omega) _).new (q := ⟨w.heap.size, 6, none⟩) hB (by simp; omega) _)
    · exact (((((((hch.new (q := ⟨w.heap.size, 0, none⟩) (Nat.le_refl _) _).new (q := ⟨w.heap.size, 1, none⟩) (Nat.le_refl _) _).new (q := ⟨w.heap.size, 2, none⟩) (Nat.le_refl _) _).new (q := ⟨w.heap.size, 3, none⟩) (Nat.le_refl _) _).new (q := ⟨w.heap.size, 4, none⟩) (Nat.le_refl _) _).new (q := ⟨w.heap.size, 5, none⟩) (Nat.le_refl _) _).new (q := ⟨w.heap.size, 6, none⟩) (Nat.le_refl _) _)

end Go.Proofs.Ytbndonfpdioibaa
