/- Factors: a factor of the call's own; the model's l8Has, l8Told. (gen6/l8Times.part: l8Times as far as its first region.) -/
import Derived.Test.YtaipdkfbkcknkaaFB
import Derived.Deep.RegionLaw
import Derived.Test.YtaipdkfbkcknkaaRy
import Derived.Test.YtaipdkfbkcknkaaNm
namespace Go.Proofs.Ytaipdkfbkcknkaa
set_option maxRecDepth 100000
set_option linter.unusedVariables false
open Go.RowKit

/-- A factor of the call's own. -/
def FcV (w : World) (base : Nat) (v1 v2 : Value) (F : Fac) : Prop := IOwn w base v1 F.vs ∧ IOwn w base v2 F.ns ∧ ∀ b, v1.ownBlock = some b → v2.ownBlock ≠ some b
def Fcd (w : World) (F : Fac) (e : Ending) (w' : World) : Prop := ∃ v1 v2, e = .returned (.agg #[v1, v2]) ∧ FcV w' w.heap.size v1 v2 F ∧ Below w.heap.size w w'
/-- A factor and whether it is one. -/
def Fbd (w : World) (F : Fac) (ok : Bool) (e : Ending) (w' : World) : Prop := ∃ v1 v2, e = .returned (.tuple #[.agg #[v1, v2], .bool ok]) ∧ FcV w' w.heap.size v1 v2 F ∧ Below w.heap.size w w'
theorem two_cells {cs : Array Value} (h : cs.size = 2) : ∃ x0 x1, cs = #[x0, x1] := by
  obtain ⟨l⟩ := cs
  match l, h with
  | [a, b], _ => exact ⟨a, b, rfl⟩
theorem iown_ne {w : World} {base g : Nat} {v : Value} {ds : List Int} {t : TypeId} {cs : Array Value} (h : IOwn w base v ds) (hg : Has w g t cs) (ht : 3 ≠ t) (k : Nat) (hk : v.ownBlock = some k) : k ≠ g := by
  rcases h.2 with ⟨hv, _⟩ | ⟨g', cap, cur, hv, _, hh, _⟩
  · subst hv
    cases hk
  · subst hv
    have e : g' = k := by injection hk
    subst e
    exact has_ne hh hg ht
theorem l8Has_any (A : Option Addr) (n c : Nat) (vs : List Int) (x : Int) (w : World) (h : Ils w w.heap.size A n vs) (hn : n ≤ maxLen) :
    Calls Try.prog 62 #[.slice A n c, .int .i64 x] w fun e w' => e = .returned (.bool (decide (x ∈ vs))) ∧ w = w' := by
  have hI := Lib.hid h
  have hl := h.1
  have hn9 : n ≤ 9223372036854775807 := by unfold maxLen at hn; omega
  clear h hn
  go_enter Try.func62, Try.ntmps62
  go_wp2_with fail
  go_loopg [5] n (fun gn v wr => ∃ k : Nat, k ≤ n ∧ gn = n - k ∧ v = .int .i64 k ∧ (∀ i d, i < k → vs[i]? = some d → d ≠ x) ∧ wr = w)
  case atStart => exact ⟨0, Nat.zero_le _, rfl, rfl, fun i d hi => absurd hi (by omega), rfl⟩
  case round =>
    obtain ⟨k, hk, hgn, rfl, hno, rfl⟩ := hrel
    have hgk : gk = n - k := hgn
    have hNo := Lib.hid hno
    clear hgn hno
    by_cases hlt : k < n
    · obtain ⟨g, off, d, rfl, hg, hd, c0⟩ := hI.out.at_ hlt
      have hk0 : (0 : Int) ≤ (k : Int) := by omega
      have hk1 : (k : Int) < (n : Int) := by omega
      have hdh := Lib.hid hd
      by_cases he : d = x
      · have hR := Lib.hid (show decide (x ∈ vs) = true from decide_eq_true (he ▸ List.mem_of_getElem? hd))
        have hee : (d == x) = true := by simpa using he
        clear hd he
        go_wp2_with fail
        go_ret
        exact ⟨ret_bool hR.out, rfl⟩
      · have hee : (d == x) = false := by simpa using he
        have hne := Lib.hid he
        clear hd he
        go_wp2_with fail
        go_roundg (n - (k + 1))
        case measure => omega
        case rel => exact ⟨k + 1, by omega, rfl, by go_num, fun i y hi hy => by
          by_cases hik : i = k
          · subst hik
            rw [Option.some.inj (hy.symm.trans hdh.out)]
            exact hne.out
          · exact hNo.out i y (by omega) hy, rfl⟩
    · obtain rfl : k = n := by omega
      have hR := Lib.hid (show decide (x ∈ vs) = false from decide_eq_false fun hx => by
        obtain ⟨i, hi, he⟩ := List.getElem_of_mem hx
        exact hNo.out i _ (by omega) (List.getElem?_eq_getElem hi) he)
      go_wp2_with fail
      go_ret
      exact ⟨ret_bool hR.out, rfl⟩
theorem l8Told_any (A1 A2 : Option Addr) (n1 c1 n2 c2 : Nat) (F : Fac) (w : World) (h : FacW w w.heap.size A1 n1 A2 n2 F) (hn1 : n1 ≤ maxLen) (hn2 : n2 ≤ maxLen) :
    Calls Try.prog 94 #[.agg #[.slice A1 n1 c1, .slice A2 n2 c2]] w fun e w' => e = .returned (.tuple #[if facOk 1000000000 F = true then .agg #[.slice A1 n1 c1, .slice A2 n2 c2] else .agg #[.slice none 0 0, .slice none 0 0], .bool (facOk 1000000000 F)]) ∧ Below w.heap.size w w' := by
  have hB0 : Below w.heap.size w ((w.alloc (.cells #[.slice A1 n1 c1, .slice A2 n2 c2] 36)).alloc (.cells #[.slice none 0 0, .slice none 0 0] 36)) := ((Below.refl _ _).alloc (Nat.le_refl _) _).alloc (by simp) _
  have cF := Lib.hid (specFactorOk_any A1 A2 n1 c1 n2 c2 F _ (h.below hB0) hn1 hn2)
  have hb := Lib.hid ((Has.new w 36 #[.slice A1 n1 c1, .slice A2 n2 c2]).alloc (.cells #[.slice none 0 0, .slice none 0 0] 36))
  have hr := Lib.hid (Has.newAt (w := w.alloc (.cells #[.slice A1 n1 c1, .slice A2 n2 c2] 36)) (n := w.heap.size + 1) (t := 36) (cs := #[.slice none 0 0, .slice none 0 0]) (by simp))
  have hB := Lib.hid hB0
  clear h hB0 hn1 hn2
  have cb := hb.out.cell
  cases hk : facOk 1000000000 F
  · rw [hk] at cF
    rw [if_neg (by decide)]
    clear hk
    go_enter Try.func94, Try.ntmps94
    go_wp2_with fail
    refine cF.out.mono ?_
    rintro e w1 ⟨rfl, hb1⟩
    have hB1 := Lib.hid (hB.out.trans (hb1.mono hB.out.size))
    have hr1 := hr.out.kept hb1
    have cr := hr1.cell
    have fr := hr1.frozen
    clear hb1 cb
    go_wp2_with fail
    refine bodyPost_ret (v := .tuple #[.agg #[.slice none 0 0, .slice none 0 0], .bool false]) (by simp [results, Try.results94, go_sem, cr]) rfl ⟨rfl, ?_⟩
    exact (hB1.out.setCell (p := ⟨w.heap.size + 1, 0, none⟩) (by simp) _).setCell (p := ⟨w.heap.size + 1, 1, none⟩) (by simp) _
  · rw [hk] at cF
    rw [if_pos rfl]
    clear hk
    go_enter Try.func94, Try.ntmps94
    go_wp2_with fail
    refine cF.out.mono ?_
    rintro e w1 ⟨rfl, hb1⟩
    have hB1 := Lib.hid (hB.out.trans (hb1.mono hB.out.size))
    have hr1 := hr.out.kept hb1
    have cb1 := (hb.out.kept hb1).cell
    have cr := hr1.cell
    have fr := hr1.frozen
    clear hb1 cb
    go_wp2_with fail
    refine bodyPost_ret (v := .tuple #[.agg #[.slice A1 n1 c1, .slice A2 n2 c2], .bool true]) (by simp [results, Try.results94, go_sem, cr]) rfl ⟨rfl, ?_⟩
    exact (hB1.out.setCell (p := ⟨w.heap.size + 1, 0, none⟩) (by simp) _).setCell (p := ⟨w.heap.size + 1, 1, none⟩) (by simp) _
end Go.Proofs.Ytaipdkfbkcknkaa
