/- Parts of the proof: KE. -/
import Derived.Deep.MidRow
import Derived.Deep.WholeRow
import Derived.Test.YtaipdkfbkcknkaaZAR
import Derived.Test.YtaipdkfbkcknkaaZAN
import Derived.Test.YtaipdkfbkcknkaaZAG
import Derived.Test.YtaipdkfbkcknkaaZAI
namespace Go.Proofs.Ytaipdkfbkcknkaa
set_option maxRecDepth 100000
set_option linter.unusedVariables false
open Go.RowKit
def strA (v1 v2 : Value) (f : Nat → Int) : Array Value := #[v1, v2, .int .i64 (f 0), .int .i64 (f 1), .int .i64 (f 2), .int .i64 (f 3)]
def Scd (w : World) (F : Fac) (e : Ending) (w' : World) : Prop := ∃ v1 v2, e = .returned (.agg (strA v1 v2 (strL (setOf F.vs)))) ∧ FcV w' w.heap.size v1 v2 F ∧ Below w.heap.size w w'
theorem index_four {sn : Array Value} {u : Value} {q : Nat} (h : sn[q]? = some u) (hq : q < 4) (w : World) : (Instr.index 77 (.agg sn) (.int .i64 q)).run Try.prog w = .ok u w := by
  have hu := Try.underlying77
  have hc : (0 : Int) ≤ (q : Int) ∧ (q : Int) < 4 := by omega
  simp [Instr.index, run_underlying hu, asIntOf, go_sem, part, h, hc]
  intro h9
  omega
theorem four_at (f : Nat → Int) {k : Nat} (hk : k < 4) : (#[.int .i64 (f 0), .int .i64 (f 1), .int .i64 (f 2), .int .i64 (f 3)] : Array Value)[k]? = some (.int .i64 (f k)) := by
  obtain rfl | rfl | rfl | rfl : k = 0 ∨ k = 1 ∨ k = 2 ∨ k = 3 := by omega
  all_goals rfl
theorem atK_bd {L st : Int} (hL : 0 ≤ L ∧ L ≤ 15) (hs : 0 ≤ st ∧ st ≤ 80) : ∀ k : Nat, k ≤ 4 → 0 ≤ atK L st k ∧ atK L st k ≤ 54 * (k : Int)
  | 0, _ => by simp [atK]
  | k + 1, hk => by
    have ih := atK_bd hL hs k (by omega)
    obtain ⟨n, rfl⟩ := fin16 hL
    have h1 := strL_bd n ⟨k, by omega⟩
    simp only at h1
    have h2 := value_bd hs (v := (k : Int)) (by omega)
    have e : atK (n.val : Int) st (k + 1) = atK (n.val : Int) st k + strL (n.val : Int) k * valueAt st (k : Int) := rfl
    have h3 := Int.mul_nonneg h1.1 h2.1
    have h4 := Int.mul_le_mul h1.2 h2.2 h2.1 (by decide)
    rw [e]
    omega
theorem at_any (v1 v2 : Value) (L st : Int) (w : World) (hL : 0 ≤ L ∧ L ≤ 15) (hs : 0 ≤ st ∧ st ≤ 80) :
    Calls Try.prog 120 #[.agg (strA v1 v2 (strL L)), .int .i64 st] w fun e w' => e = .returned (.int .i64 (idx (over L) st)) ∧ Below w.heap.size w w' := by
  have hbd := Lib.hid (fun k hk => atK_bd hL hs k hk)
  obtain ⟨n, rfl⟩ := fin16 hL
  have hall := Lib.hid (show atK (n.val : Int) st 4 = idx (over (n.val : Int)) st from by
    obtain ⟨q, rfl⟩ := fin_of (L := n) hs
    exact atK_all n q)
  have hsb : Hid (∀ k : Nat, k < 4 → 0 ≤ strL (n.val : Int) k ∧ strL (n.val : Int) k ≤ 27) := Lib.hid (fun k hk => strL_bd n ⟨k, hk⟩)
  have hix := Lib.hid (fun (k : Nat) (hk : k < 4) (wx : World) => index_four (four_at (strL (n.val : Int)) hk) hk wx)
  have hvb := Lib.hid (fun (k : Nat) (hk : k < 4) => value_bd hs (v := (k : Int)) (by omega))
  have hstep := Lib.hid (fun k => show atK (n.val : Int) st (k + 1) = atK (n.val : Int) st k + strL (n.val : Int) k * valueAt st (k : Int) from rfl)
  have hg0 := Lib.hid (show atK (n.val : Int) st 0 = 0 from rfl)
  unfold strA
  have hB := Lib.hid (show Below w.heap.size w (w.alloc (.cells #[v1, v2, .int .i64 (strL (n.val : Int) 0), .int .i64 (strL (n.val : Int) 1), .int .i64 (strL (n.val : Int) 2), .int .i64 (strL (n.val : Int) 3)] 79)) from (Below.refl _ _).alloc (Nat.le_refl _) _)
  clear hL
  generalize strL (n.val : Int) = f at *
  generalize atK (n.val : Int) st = g at *
  generalize idx (over (n.val : Int)) st = y at *
  go_enter Try.func120, Try.ntmps120
  go_wp2_with fail
  generalize w.alloc (.cells #[v1, v2, .int .i64 (f 0), .int .i64 (f 1), .int .i64 (f 2), .int .i64 (f 3)] 79) = W0 at hB ⊢
  go_loopg [5, 10] 4 (fun gq o x wr => ∃ k : Nat, k ≤ 4 ∧ gq = 4 - k ∧ x = .int .i64 k ∧ o = .int .i64 (g k) ∧ wr = W0)
  case atStart => exact ⟨0, Nat.zero_le _, rfl, rfl, by rw [hg0.out], rfl⟩
  case round =>
    obtain ⟨k, hk, hgn, rfl, rfl, rfl⟩ := hrel
    have hgk : gk = 4 - k := hgn
    clear hgn
    by_cases hlt : k < 4
    · have hk0 : (0 : Int) ≤ (k : Int) := by omega
      have hk4 : (k : Int) < 4 := by omega
      have hi := hix.out k hlt
      have h1 := hsb.out k hlt
      have h2 := hvb.out k hlt
      have h3 := hbd.out k hk
      have hst := Lib.hid (hstep.out k)
      have h4 := Int.mul_nonneg h1.1 h2.1
      have h5 := Int.mul_le_mul h1.2 h2.2 h2.1 (by decide)
      have cV := Lib.hid (fun wx => ValueAt_any st (k : Int) wx)
      generalize valueAt st (k : Int) = z at *
      have hw1 : IntKind.i64.wrap (f k * z) = f k * z := by rw [IntKind.wrap_i64]; omega
      have hw2 : IntKind.i64.wrap (g k + f k * z) = g k + f k * z := by rw [IntKind.wrap_i64]; omega
      go_wp2_with fail
      refine (cV.out _).mono ?_
      rintro e w' ⟨rfl, rfl⟩
      go_wp2_with fail
      go_roundg (4 - (k + 1))
      case measure => omega
      case rel => exact ⟨k + 1, by omega, rfl, by go_num, by rw [hst.out], rfl⟩
    · obtain rfl : k = 4 := by omega
      go_wp2_with fail
      go_ret
      exact ⟨ret_int hall.out.symm, hB.out⟩
theorem strA_set (v1 v2 : Value) (f : Nat → Int) {u : Nat} (hu : u < 4) (x : Int) : (strA v1 v2 f).setIfInBounds (2 + u) (.int .i64 x) = strA v1 v2 (fun j => if j = u then x else f j) := by
  obtain rfl | rfl | rfl | rfl : u = 0 ∨ u = 1 ∨ u = 2 ∨ u = 3 := by omega
  all_goals rfl
theorem strA_congr (v1 v2 : Value) {f g : Nat → Int} (h : ∀ j, j < 4 → f j = g j) : strA v1 v2 f = strA v1 v2 g := by
  unfold strA
  rw [h 0 (by decide), h 1 (by decide), h 2 (by decide), h 3 (by decide)]
theorem strA_size (v1 v2 : Value) (f : Nat → Int) : (strA v1 v2 f).size = 6 := rfl
theorem pow_three {k : Nat} (h : k ≤ 4) : 1 ≤ ((3 ^ k : Nat) : Int) ∧ ((3 ^ k : Nat) : Int) ≤ 81 := by
  have h1 : 0 < 3 ^ k := Nat.pow_pos (by decide)
  have h2 := pow_four h
  omega
theorem kept_setCells {b : Nat} {w0 : World} : ∀ (vs : List Value) (o : Nat) (w : World), KeptBut w0 w (fun i => i = b) → KeptBut w0 (w.setCells b o vs) (fun i => i = b)
  | [], o, w, h => h
  | u :: vs, o, w, h => kept_setCells vs (o + 1) _ (h.put (p := ⟨b, o, none⟩) (fun _ => rfl) u)
theorem fcv_setCells {w : World} {base b : Nat} {v1 v2 : Value} {F : Fac} {cs : Array Value} (h : FcV w base v1 v2 F) (hb : Has w b 79 cs) (vs : List Value) (o : Nat) : FcV (w.setCells b o vs) base v1 v2 F := by
  have hk := kept_setCells (b := b) vs o w (KeptBut.refl w _)
  exact ⟨h.1.but hk (fun k hk e => iown_ne h.1 hb (by decide) k hk e), h.2.1.but hk (fun k hk e => iown_ne h.2.1 hb (by decide) k hk e), h.2.2⟩
set_option maxHeartbeats 1000000 in
theorem stridedOver_any (L : Int) (w : World) (hL : 0 ≤ L ∧ L ≤ 15) :
    Calls Try.prog 114 #[.int .i64 L] w (Scd w (blankF L)) := by
  have cO := Lib.hid (fun wx => blankOver_any L wx hL)
  have hB0 := Lib.hid (show Below w.heap.size w (w.alloc (.cells #[.slice none 0 0, .slice none 0 0, .int .i64 0, .int .i64 0, .int .i64 0, .int .i64 0] 79)) from (Below.refl _ _).alloc (Nat.le_refl _) _)
  have hR0 := Lib.hid (Has.new w 79 #[.slice none 0 0, .slice none 0 0, .int .i64 0, .int .i64 0, .int .i64 0, .int .i64 0])
  obtain ⟨n, rfl⟩ := fin16 hL
  have hset := Lib.hid (show setOf (blankF (n.val : Int)).vs = (n.val : Int) from (over_ok n).2.1)
  have hvs := Lib.hid (show (blankF (n.val : Int)).vs = over (n.val : Int) from rfl)
  have hol := (over_ok n).2.2
  have hst : Hid (∀ k : Nat, k < (over (n.val : Int)).length → strL (n.val : Int) ((over (n.val : Int)).getD k 0).toNat = ((3 ^ k : Nat) : Int) ∧ 0 ≤ (over (n.val : Int)).getD k 0 ∧ (over (n.val : Int)).getD k 0 ≤ 3) := Lib.hid (fun (k : Nat) hk => strL_at n ⟨k, by omega⟩ hk)
  have hsp : Hid (∀ k v : Nat, k < (over (n.val : Int)).length → v < 4 → strP (n.val : Int) (k + 1) v = if (v : Int) = (over (n.val : Int)).getD k 0 then ((3 ^ k : Nat) : Int) else strP (n.val : Int) k v) := Lib.hid (fun k v hk hv => strP_step n ⟨k, by omega⟩ ⟨v, hv⟩ hk)
  have hsa : Hid (∀ v : Nat, v < 4 → strP (n.val : Int) (over (n.val : Int)).length v = strL (n.val : Int) v) := Lib.hid (fun v hv => strP_all n ⟨v, hv⟩)
  have hs0 := Lib.hid (fun v => strP_zero (n.val : Int) v)
  obtain ⟨m, hm⟩ : ∃ m, (over (n.val : Int)).length = m := ⟨_, rfl⟩
  rw [hm] at hol hst hsp hsa
  have hmh := Lib.hid hm
  go_enter Try.func114, Try.ntmps114
  go_wp2_with fail
  generalize w.alloc (.cells #[.slice none 0 0, .slice none 0 0, .int .i64 0, .int .i64 0, .int .i64 0, .int .i64 0] 79) = W0 at hB0 hR0 ⊢
  refine (cO.out _).mono ?_
  rintro e w1 ⟨v1, v2, rfl, hV, hb1⟩
  obtain ⟨A1, c1, rfl, _, _⟩ := hV.1.form
  obtain ⟨A2, c2, rfl, _, _⟩ := hV.2.1.form
  have hl1 : (blankF (n.val : Int)).vs.length = m := hm
  rw [hl1] at hV ⊢
  obtain ⟨q, hq⟩ : ∃ q, (blankF (n.val : Int)).ns.length = q := ⟨_, rfl⟩
  rw [hq] at hV ⊢
  have hB1 := hB0.out.trans (hb1.mono hB0.out.size)
  have hal : Below w1.heap.size w1 (w1.alloc (.cells #[.slice A1 m c1, .slice A2 q c2, .int .i64 0, .int .i64 0, .int .i64 0, .int .i64 0] 79)) := (Below.refl _ _).alloc (Nat.le_refl _) _
  have hR2 := Lib.hid ((hR0.out.kept hb1).kept hal)
  have hB2 := Lib.hid (hB1.trans (hal.mono hB1.size))
  have hV2 := Lib.hid ((hV.le hB0.out.size).below hal)
  have hS2 := Lib.hid (show Has (w1.alloc (.cells #[.slice A1 m c1, .slice A2 q c2, .int .i64 0, .int .i64 0, .int .i64 0, .int .i64 0] 79)) w1.heap.size 79 (strA (.slice A1 m c1) (.slice A2 q c2) (strP (n.val : Int) 0)) from by
    have := Has.new w1 79 #[.slice A1 m c1, .slice A2 q c2, .int .i64 0, .int .i64 0, .int .i64 0, .int .i64 0]
    rw [strA_congr _ _ (g := fun _ => 0) (fun j _ => strP_zero (n.val : Int) j)]
    exact this)
  have hSw := Lib.hid (show w.heap.size < w1.heap.size by have := (hR0.out.kept hb1).lt; omega)
  clear hV hb1 hB1 hal hm hl1
  go_wp2_with fail
  generalize w1.alloc (.cells #[.slice A1 m c1, .slice A2 q c2, .int .i64 0, .int .i64 0, .int .i64 0, .int .i64 0] 79) = W2 at hR2 hB2 hV2 hS2 ⊢
  generalize w1.heap.size = S at hS2 hSw ⊢
  go_loopg [4, 14] m (fun gq y x wr => ∃ k : Nat, k ≤ m ∧ gq = m - k ∧ x = .int .i64 k ∧ y = .int .i64 ((3 ^ k : Nat) : Int) ∧ Has wr S 79 (strA (.slice A1 m c1) (.slice A2 q c2) (strP (n.val : Int) k)) ∧ FcV wr w.heap.size (.slice A1 m c1) (.slice A2 q c2) (blankF (n.val : Int)) ∧ Has wr w.heap.size 79 #[.slice none 0 0, .slice none 0 0, .int .i64 0, .int .i64 0, .int .i64 0, .int .i64 0] ∧ Below w.heap.size w wr)
  case atStart => exact ⟨0, Nat.zero_le _, rfl, rfl, rfl, hS2.out, hV2.out, hR2.out, hB2.out⟩
  case round =>
    obtain ⟨k, hk, hgn, rfl, rfl, hS, hV, hR, hB⟩ := hrel
    have hgk : gk = m - k := hgn
    have kS := Lib.hid hS
    have kV := Lib.hid hV
    have kR := Lib.hid hR
    have kB := Lib.hid hB
    clear hgn hS hV hR hB
    by_cases hlt : k < m
    · have hIl : Ils wr wr.heap.size A1 m (over (n.val : Int)) := IOwn.lst kV.out.1
      obtain ⟨g, off, d, rfl, hg, hd, cd⟩ := hIl.at_ hlt
      have hdd : (over (n.val : Int)).getD k 0 = d := by rw [List.getD_eq_getElem?_getD, hd]; rfl
      obtain ⟨e1, e2, e3⟩ := hst.out k hlt
      rw [hdd] at e2 e3
      obtain ⟨u, rfl, hu⟩ := nat4 e2 e3
      have hp3 := pow_three (k := k) (by omega)
      have hwm : IntKind.i64.wrap (((3 ^ k : Nat) : Int) * 3) = ((3 ^ (k + 1) : Nat) : Int) := by
        have : ((3 ^ (k + 1) : Nat) : Int) = ((3 ^ k : Nat) : Int) * 3 := by rw [Nat.pow_succ, Int.natCast_mul]; rfl
        rw [this, IntKind.wrap_i64]; omega
      have hk0 : (0 : Int) ≤ (k : Int) := by omega
      have hk1 : (k : Int) < (m : Int) := by omega
      have hu0 : (0 : Int) ≤ (u : Int) := by omega
      have hu4 : (u : Int) < 4 := by omega
      obtain ⟨u9, hu9⟩ := kS.out.size_cell (x := 2 + u) (by rw [strA_size]; omega)
      have hfz := kS.out.frozen (2 + u)
      have hSn := Lib.hid (show Has (wr.setCell ⟨S, 2 + u, none⟩ (.int .i64 ((3 ^ k : Nat) : Int))) S 79 (strA (.slice (some ⟨g, off, none⟩) m c1) (.slice A2 q c2) (strP (n.val : Int) (k + 1))) from by
        have h9 := kS.out.put (2 + u) (.int .i64 ((3 ^ k : Nat) : Int))
        rw [strA_set _ _ _ (by omega)] at h9
        rw [strA_congr _ _ (fun j hj => ?_)]
        · exact h9
        · have h8 := hsp.out k j hlt hj
          rw [h8, hdd]
          by_cases hju : j = u
          · rw [if_pos (by omega), if_pos hju]
          · rw [if_neg (by omega), if_neg hju])
      have hVn := Lib.hid (show FcV (wr.setCell ⟨S, 2 + u, none⟩ (.int .i64 ((3 ^ k : Nat) : Int))) w.heap.size (.slice (some ⟨g, off, none⟩) m c1) (.slice A2 q c2) (blankF (n.val : Int)) from by
        have hkp := (KeptBut.refl wr (fun i => i = S)).put (p := ⟨S, 2 + u, none⟩) (fun _ => rfl) (.int .i64 ((3 ^ k : Nat) : Int))
        exact ⟨kV.out.1.but hkp (fun b hb e => iown_ne kV.out.1 kS.out (by decide) b hb e), kV.out.2.1.but hkp (fun b hb e => iown_ne kV.out.2.1 kS.out (by decide) b hb e), kV.out.2.2⟩)
      have hRn := Lib.hid (kR.out.far (p := ⟨S, 2 + u, none⟩) (by have := hSw.out; show w.heap.size ≠ S; omega) (.int .i64 ((3 ^ k : Nat) : Int)))
      have hBn := Lib.hid (kB.out.setCell (p := ⟨S, 2 + u, none⟩) (by have := hSw.out; show w.heap.size ≤ S; omega) (.int .i64 ((3 ^ k : Nat) : Int)))
      clear hIl hd hdd e1 e2 e3
      obtain ⟨p1, hp1⟩ : ∃ p1, ((3 ^ (k + 1) : Nat) : Int) = p1 := ⟨_, rfl⟩
      rw [hp1] at hwm
      have hp1h := Lib.hid hp1
      clear hp1
      generalize ((3 ^ k : Nat) : Int) = p0 at *
      go_wp2_with fail
      go_roundg (m - (k + 1))
      case measure => omega
      case rel => exact ⟨k + 1, by omega, rfl, by go_num, by rw [hp1h.out], hSn.out, hVn.out, hRn.out, hBn.out⟩
    · obtain rfl : k = m := by omega
      have hS6 : Has wr S 79 (strA (.slice A1 k c1) (.slice A2 q c2) (strL (n.val : Int))) := by
        have h9 := kS.out
        rwa [strA_congr _ _ (fun j hj => hsa.out j hj)] at h9
      have hsz : (Try.prog.info? 79).map (·.size) = some 6 := by kernel_rfl
      obtain ⟨cs, hcs⟩ : ∃ cs, strA (.slice A1 k c1) (.slice A2 q c2) (strL (n.val : Int)) = cs := ⟨_, rfl⟩
      have hcz : cs.size = 6 := by rw [← hcs]; rfl
      have hone : cs.all (·.oneCell') = true := by rw [← hcs]; unfold strA; simp [Value.oneCell']
      rw [hcs] at hS6
      have hL1 := Lib.hid (show (Try.prog.info? 79).map (·.size) = some cs.toList.length by rw [hsz]; simp [hcz])
      have hS1 := Lib.hid (show (Try.prog.info? 79).map (·.size) = some cs.size by rw [hsz, hcz])
      have hR1 := Lib.hid (has_range_ (o := 0) (vs := cs.toList) hS6 (fun j v hv => by rw [Nat.zero_add]; simpa using hv))
      obtain ⟨cs', hC1, hC2, hC3, _⟩ := has_setCells_ cs.toList 0 wr _ kR.out (by simp [hcz])
      have hC4 : cs' = cs := by
        apply Array.ext_getElem?
        intro i
        by_cases hi : i < cs.size
        · have := hC3 i cs[i] (by simp [hi])
          rw [Nat.zero_add] at this
          rw [this, Array.getElem?_eq_getElem hi]
        · rw [Array.getElem?_eq_none (by rw [hC2]; show 6 ≤ i; omega), Array.getElem?_eq_none (by omega)]
      subst hC4
      have hT1 := Lib.hid (has_there_ (o := 0) (n := cs'.size) kR.out (by rw [hcz]; exact Nat.le_refl 6))
      have hBn := Lib.hid (below_setCells_ (Nat.le_refl w.heap.size) cs'.toList 0 _ kB.out)
      have hlv := Lib.hid (run_loadVar_row (P := Try.prog) _ w.heap.size 79 79 cs' (0, 0) _ hC1 Try.underlying79 rfl hS1.out)
      have hVe := Lib.hid (fcv_setCells kV.out kR.out cs'.toList 0)
      have hoh := Lib.hid hone
      have hch := Lib.hid hcs
      clear hS6 hsz hcs hcz hone hC1 hC2 hC3
      go_wp2_with (first
        | (refine wpList_load_mid rfl 79 (.tmp 3) rfl S 0 (by simp [Act.eval]) cs'.toList _ hR1.out Try.underlying79 rfl hL1.out ?_)
        | (refine wpList_store_mid rfl 79 (.tmp 2) (.tmp 25) rfl w.heap.size 0 cs' (by rfl) (by rfl) hT1.out hS1.out hoh.out ?_))
      refine bodyPost_ret (v := .agg cs') (by rw [results_cell_ rfl]; simp [asAddr, Result.andThen, Act.put, hlv.out]) rfl ?_
      exact ⟨_, _, by rw [hset.out, ← hch.out], hVe.out, hBn.out⟩
end Go.Proofs.Ytaipdkfbkcknkaa
