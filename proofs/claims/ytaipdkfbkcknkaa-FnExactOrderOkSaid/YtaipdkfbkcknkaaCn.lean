/- Whether a change fits: the model's l6Touch, l6Apart, l6Product, l6Common and l6Ok. Weights' products and what they have in common: the model's l6Product and l6Common. -/
import Derived.Test.YtaipdkfbkcknkaaCa
import Derived.Test.YtaipdkfbkcknkaaAg
import Derived.Test.YtaipdkfbkcknkaaCb
namespace Go.Proofs.Ytaipdkfbkcknkaa
set_option maxRecDepth 100000
set_option linter.unusedVariables false
open Go.RowKit

theorem com_three {s : St} (h : s.ok = true) (h6 : s.k < 6) : com s = gcdI (gcdI s.u s.v) s.x := by
  have hw := ok_w h h6
  have e : gcdI 0 s.u = s.u := by
    unfold gcdI
    rw [show (0 : Int).toNat = 0 from rfl, Nat.gcd_zero_left]
    exact Int.toNat_of_nonneg hw.1.1
  unfold com gcdF
  rw [List.foldl_cons, List.foldl_cons, List.foldl_cons, List.foldl_nil, e]
/-- What a statement reads or sets. -/
def touch (s : St) : Int := if 0 ≤ s.sets then bits .or .i64 s.reads (bitN s.sets) else s.reads
theorem shl_bit : ∀ x : Fin 4, wrap64 (2 ^ ((x : Int)).toNat) = bitN x := by decide +kernel
theorem l6Touch_any (s : St) (w : World) (h : s.ok = true) :
    Calls Try.prog 136 #[.agg #[.int .i64 s.k, .int .i64 s.a, .int .i64 s.b, .int .i64 s.c, .int .i64 s.u, .int .i64 s.v, .int .i64 s.x]] w fun e w' => e = .returned (.int .i64 (touch s)) ∧ Below w.heap.size w w' := by
  have hsb := sets_bd s h
  have hrb := reads_bd s
  have cR : Hid (∀ wx : World, Calls Try.prog 150 #[.agg #[.int .i64 s.k, .int .i64 s.a, .int .i64 s.b, .int .i64 s.c, .int .i64 s.u, .int .i64 s.v, .int .i64 s.x]] wx fun e w' => e = .returned (.int .i64 s.reads) ∧ Below wx.heap.size wx w') := Lib.hid (fun wx => specStmtReads_any s.k s.a s.b s.c s.u s.v s.x wx)
  have cS : Hid (∀ wx : World, Calls Try.prog 135 #[.agg #[.int .i64 s.k, .int .i64 s.a, .int .i64 s.b, .int .i64 s.c, .int .i64 s.u, .int .i64 s.v, .int .i64 s.x]] wx fun e w' => e = .returned (.int .i64 s.sets) ∧ Below wx.heap.size wx w') := Lib.hid (fun wx => specStmtSets_any s.k s.a s.b s.c s.u s.v s.x wx)
  have h1 := Has.new w 105 #[.int .i64 s.k, .int .i64 s.a, .int .i64 s.b, .int .i64 s.c, .int .i64 s.u, .int .i64 s.v, .int .i64 s.x]
  have hH := Lib.hid h1
  have hB := Lib.hid (show Below w.heap.size w (w.alloc (.cells #[.int .i64 s.k, .int .i64 s.a, .int .i64 s.b, .int .i64 s.c, .int .i64 s.u, .int .i64 s.v, .int .i64 s.x] 105)) from (Below.refl _ _).alloc (Nat.le_refl _) _)
  clear h1 h
  go_enter Try.func136, Try.ntmps136
  go_wp2_with fail
  refine (cR.out _).mono ?_
  rintro e w1 ⟨rfl, hb1⟩
  have hH1 := Lib.hid (hH.out.kept hb1)
  have hB1 := Lib.hid (hB.out.trans (hb1.mono (by simp)))
  have hcs := hH1.out.cell
  have hz1 := hb1.size
  clear hb1
  go_wp2_with fail
  refine (cS.out _).mono ?_
  rintro e w2 ⟨rfl, hb2⟩
  have hH2 := Lib.hid (hH1.out.kept hb2)
  have hB2 := Lib.hid (hB1.out.trans (hb2.mono (by simp at hz1; omega)))
  clear hcs
  have hcs := hH2.out.cell
  have hz2 := hb2.size
  clear hb2
  by_cases hs : 0 ≤ s.sets
  · have hT := Lib.hid (show touch s = bits .or .i64 s.reads (bitN s.sets) from if_pos hs)
    have hsh := Lib.hid (show wrap64 (2 ^ s.sets.toNat) = bitN s.sets from by
      have := shl_bit ⟨s.sets.toNat, by omega⟩
      dsimp only at this
      rwa [Int.toNat_of_nonneg hs] at this)
    go_wp2_with fail
    refine (cS.out _).mono ?_
    rintro e w3 ⟨rfl, hb3⟩
    have hB3 := Lib.hid (hB2.out.trans (hb3.mono (by simp at hz1; omega)))
    clear hb3
    go_wp2_with fail
    go_ret
    exact ⟨ret_int (by rw [hT.out, ← hsh.out]), hB3.out⟩
  · have hT := Lib.hid (show touch s = s.reads from if_neg hs)
    go_wp2_with fail
    go_ret
    exact ⟨ret_int hT.out, hB2.out⟩

/-- Whether what two statements touch is apart, told by bits. -/
def bitAt (t x : Int) : Int := (t / 2 ^ x.toNat).tmod 2
theorem apart_facts : ∀ x : Fin 5, ∀ rx : Fin 16, ∀ y : Fin 5, ∀ ry : Fin 16,
    (if decide (0 ≤ (x : Int) - 1) && (bitAt (if 0 ≤ (y : Int) - 1 then bits .or .i64 ry (bitN ((y : Int) - 1)) else ry) ((x : Int) - 1) == 1) then false
      else (decide ((y : Int) - 1 < 0) || (bitAt (if 0 ≤ (x : Int) - 1 then bits .or .i64 rx (bitN ((x : Int) - 1)) else rx) ((y : Int) - 1) == 0))) = swapB ((x : Int) - 1) rx ((y : Int) - 1) ry := by decide +kernel
theorem apart_swap {a b : St} (ha : a.ok = true) (hb : b.ok = true) :
    (if decide (0 ≤ a.sets) && (bitAt (touch b) a.sets == 1) then false else (decide (b.sets < 0) || (bitAt (touch a) b.sets == 0))) = swapOk a b := by
  have h1 := sets_bd a ha
  have h2 := sets_bd b hb
  have h3 := reads_bd a
  have h4 := reads_bd b
  have := apart_facts ⟨(a.sets + 1).toNat, by omega⟩ ⟨a.reads.toNat, by omega⟩ ⟨(b.sets + 1).toNat, by omega⟩ ⟨b.reads.toNat, by omega⟩
  dsimp only at this
  rw [Int.toNat_of_nonneg (by omega), Int.toNat_of_nonneg (by omega), Int.toNat_of_nonneg (by omega), Int.toNat_of_nonneg (by omega), Int.add_sub_cancel, Int.add_sub_cancel] at this
  exact this
end Go.Proofs.Ytaipdkfbkcknkaa

namespace Go.Proofs.Ytaipdkfbkcknkaa
set_option maxRecDepth 100000
set_option linter.unusedVariables false
open Go.RowKit

/-- The products so far. -/
def prodA (s t : St) : Nat → Array Value
  | 0 => #[.int .i64 0, .int .i64 0, .int .i64 0]
  | 1 => #[.int .i64 (s.u * t.u), .int .i64 0, .int .i64 0]
  | 2 => #[.int .i64 (s.u * t.u), .int .i64 (s.v * t.v), .int .i64 0]
  | _ => #[.int .i64 (s.u * t.u), .int .i64 (s.v * t.v), .int .i64 (s.x * t.x)]
end Go.Proofs.Ytaipdkfbkcknkaa
