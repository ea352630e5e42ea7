/- Parts of the proof: Rt, Fm, Cd, Ba, Po, Bb, Bc, Rg. -/
import Derived.StillTailTactics
import Derived.Deep.QuietTactic
import Derived.BigQuiet
import Derived.Deep.RegionHeld3
import Derived.Deep.RegionLaw
import Derived.Test.YtkggejmamhakaaaZAN
import Derived.Test.YtkggejmamhakaaaZAB
import Derived.Test.YtkggejmamhakaaaZAJ
import Derived.Test.YtkggejmamhakaaaZAC
import Derived.Test.YtkggejmamhakaaaZAH
import Derived.Deep.AppendLies
import Derived.Test.YtkggejmamhakaaaZAP
import Derived.Test.YtkggejmamhakaaaZAS
import Derived.Deep.LoopGhost
import Derived.Deep.MidRow
import Derived.Deep.WholeRow
import Derived.IntWalk
namespace Go.Proofs.Ytkggejmamhakaaa
set_option maxRecDepth 100000
set_option linter.unusedVariables false
open Go.RowKit
/-- How a run ends that is told. -/
def RTd (w : World) (o : Option (Int × Int)) (e : Ending) (w' : World) : Prop :=
  e = .returned (.tuple #[.int .i64 (o.getD (0, 0)).1, .int .i64 (o.getD (0, 0)).2, .bool o.isSome]) ∧ Below w.heap.size w w'
theorem RTd.no {w w' : World} {o : Option (Int × Int)} (h : o = none) (hb : Below w.heap.size w w') : RTd w o (.returned (.tuple #[.int .i64 0, .int .i64 0, .bool false])) w' := by
  subst h; exact ⟨rfl, hb⟩
theorem RTd.yes {w w' : World} {o : Option (Int × Int)} {a b : Int} (h : o = some (a, b)) (hb : Below w.heap.size w w') : RTd w o (.returned (.tuple #[.int .i64 a, .int .i64 b, .bool true])) w' := by
  subst h; exact ⟨rfl, hb⟩
end Go.Proofs.Ytkggejmamhakaaa
namespace Go.Proofs.Ytkggejmamhakaaa
set_option maxRecDepth 100000
set_option linter.unusedVariables false
open Go.RowKit
end Go.Proofs.Ytkggejmamhakaaa

namespace Go.Proofs.Ytkggejmamhakaaa
set_option maxRecDepth 100000
set_option linter.unusedVariables false
open Go.RowKit
theorem info_row : (Try.prog.info? 31).map (fun i => (i.zero, i.size, i.bytes)) = some (some (.slice none 0 0), 1, 24) := by kernel_rfl
end Go.Proofs.Ytkggejmamhakaaa
namespace Go.Proofs.Ytkggejmamhakaaa
set_option maxRecDepth 100000
set_option linter.unusedVariables false
open Go.RowKit
/-- The rows of a program's traces. -/
def rowsT (o : Option (List Leaf)) : List (List Int) := (o.getD []).map fun l => l.1
/-- How telling all traces ends. -/
def TrOd (w : World) (o : Option (List Leaf)) (e : Ending) (w' : World) : Prop :=
  ∃ v vs, e = .returned (.tuple #[v, .bool o.isSome]) ∧ RowsV w' w.heap.size v (rowsT o) vs ∧ Below w.heap.size w w'
theorem TrOd.no {w w' : World} {o : Option (List Leaf)} (h : o = none) (hb : Below w.heap.size w w') : TrOd w o (.returned (.tuple #[.slice none 0 0, .bool false])) w' := by
  subst h; exact ⟨_, [], rfl, RowsV.nil _ _, hb⟩
end Go.Proofs.Ytkggejmamhakaaa

namespace Go.Proofs.Ytkggejmamhakaaa
set_option maxRecDepth 100000
set_option linter.unusedVariables false
open Go.RowKit
theorem cg_no1 {ps : List St} {c z : Int} (h : plainOk ps = false) : cgOk ps c z = false := by simp [cgOk, h]
theorem cg_no2 {ps : List St} {c z : Int} (h : inB c 0 4 = false) : cgOk ps c z = false := by simp [cgOk, h]
theorem cg_no3 {ps : List St} {c z : Int} (h : inB z 0 (ps.length - 1) = false) : cgOk ps c z = false := by simp [cgOk, h]
theorem cg_yes {ps : List St} {c z : Int} (h1 : plainOk ps = true) (h2 : inB c 0 4 = true) (h3 : inB z 0 (ps.length - 1) = true) : cgOk ps c z = fitAt c ps z.toNat := by simp [cgOk, h1, h2, h3]
set_option maxHeartbeats 1000000 in
theorem ChangeOk_any (A : Option Addr) (n cap : Nat) (ps : List St) (c z : Int) (w : World) (h : Lst w w.heap.size A n ps) (hn : n ≤ cap) (hc : cap ≤ maxLen) :
    Calls Try.prog 22 #[.slice A n cap, .int .i64 c, .int .i64 z] w fun e w' => e = .returned (.bool (cgOk ps c z)) ∧ Below w.heap.size w w' := by
  have hL := Lib.hid h.1
  have hH := Lib.hid h
  have cP := Lib.hid (PlainOk_any A n cap ps w h hn hc)
  have hn9 : n ≤ 9223372036854775807 := by unfold maxLen at hc; omega
  have cI1 := Lib.hid (fun wx => within_any c 0 4 wx)
  have cI2 := Lib.hid (fun wx => within_any z 0 ((n : Int) - 1) wx)
  have hcm := Lib.hid hc
  clear h hc
  cases hp : plainOk ps
  · have hR := Lib.hid (cg_no1 (c := c) (z := z) hp)
    go_enter Try.func22, Try.ntmps22
    go_wp2_with fail
    refine cP.out.mono ?_
    rw [hp]
    rintro e w1 ⟨rfl, hb⟩
    go_wp2_with fail
    go_ret
    exact ⟨ret_bool hR.out, hb⟩
  · cases hi : inB c 0 4
    · have hR := Lib.hid (cg_no2 (ps := ps) (z := z) hi)
      go_enter Try.func22, Try.ntmps22
      go_wp2_with fail
      refine cP.out.mono ?_
      rw [hp]
      rintro e w1 ⟨rfl, hb⟩
      go_wp2_with fail
      refine (cI1.out _).mono ?_
      rw [hi]
      rintro e w2 ⟨rfl, hbe⟩
      obtain rfl := hbe
      go_wp2_with fail
      go_ret
      exact ⟨ret_bool hR.out, hb⟩
    · cases hj : inB z 0 ((n : Int) - 1)
      · have hR := Lib.hid (cg_no3 (ps := ps) (c := c) (z := z) (by rw [hL.out]; exact hj))
        go_enter Try.func22, Try.ntmps22
        go_wp2_with fail
        refine cP.out.mono ?_
        rw [hp]
        rintro e w1 ⟨rfl, hb⟩
        go_wp2_with fail
        refine (cI1.out _).mono ?_
        rw [hi]
        rintro e w2 ⟨rfl, hbe⟩
        obtain rfl := hbe
        go_wp2_with fail
        refine (cI2.out _).mono ?_
        rw [hj]
        rintro e w2 ⟨rfl, hbe⟩
        obtain rfl := hbe
        go_wp2_with fail
        go_ret
        exact ⟨ret_bool hR.out, hb⟩
      · obtain ⟨hz0, hz1⟩ := inB_iff.1 hj
        obtain ⟨k, rfl⟩ : ∃ k : Nat, z = k := ⟨z.toNat, by omega⟩
        have hk : k < n := by omega
        obtain ⟨a, ha⟩ : ∃ a, ps[k]? = some a := ⟨_, List.getElem?_eq_getElem (by have := hL.out; omega)⟩
        have hok := (plain_iff.1 hp).2
        have hR := Lib.hid (show cgOk ps c k = fits c a ps[k + 1]? by
          rw [cg_yes hp hi (by rw [hL.out]; exact hj)]
          unfold fitAt
          rw [Int.toNat_natCast, ha])
        have cW := Lib.hid (fun wx (hx : Lst wx wx.heap.size A n ps) => windowAt_any A n cap k wx.heap.size ps a wx hx hn hcm.out ha)
        have cF := Lib.hid (fun A' cap' wx hx hcp => changeFits_any c a ps[k + 1]? A' cap' wx (inB_iff.1 hi) (hok a (List.mem_of_getElem? ha)) (fun b hb => hok b (List.mem_of_getElem? hb)) hx hcp)
        generalize ps[k + 1]? = ob at cW cF hR
        clear ha hok
        go_enter Try.func22, Try.ntmps22
        go_wp2_with fail
        refine cP.out.mono ?_
        rw [hp]
        rintro e w1 ⟨rfl, hb⟩
        have hH1 := Lib.hid ((hH.out.below hb).more hb.size)
        go_wp2_with fail
        refine (cI1.out _).mono ?_
        rw [hi]
        rintro e w2 ⟨rfl, hbe⟩
        obtain rfl := hbe
        go_wp2_with fail
        refine (cI2.out _).mono ?_
        rw [hj]
        rintro e w2 ⟨rfl, hbe⟩
        obtain rfl := hbe
        clear hi hj hp
        go_wp2_with fail
        refine (cW.out _ hH1.out).mono ?_
        rintro e w3 ⟨A', cap', rfl, hc1, hc2, hl, hbe⟩
        obtain rfl := hbe
        have hB1 := Lib.hid hb
        clear hb
        go_wp2_with fail
        refine (cF.out A' cap' _ hl hc1).mono ?_
        rintro e w4 ⟨rfl, hb4⟩
        have hB4 := Lib.hid (hB1.out.trans (hb4.mono hB1.out.size))
        clear hb4
        go_wp2_with fail
        go_ret
        exact ⟨ret_bool hR.out, hB4.out⟩
/-- The number told for a change, and whether it can be done. -/
def cgBy (ps : List St) (c z : Int) : Int := if cgOk ps c z = true then facBy c (ps.getD z.toNat ⟨0, 0, 0, 0, 0, 0, 0⟩) else 0
theorem cg_parts {ps : List St} {c z : Int} (h : cgOk ps c z = true) : plainOk ps = true ∧ (0 ≤ c ∧ c ≤ 4) ∧ 0 ≤ z ∧ fitAt c ps z.toNat = true := by
  unfold cgOk at h
  rw [Bool.and_eq_true, Bool.and_eq_true, Bool.and_eq_true] at h
  exact ⟨h.1.1.1, inB_iff.1 h.1.1.2, (inB_iff.1 h.1.2).1, h.2⟩
end Go.Proofs.Ytkggejmamhakaaa
namespace Go.Proofs.Ytkggejmamhakaaa
set_option maxRecDepth 100000
set_option linter.unusedVariables false
open Go.RowKit
def rowsAt (ps : List St) (c k : Nat) : List (List Int) := ((List.range k).filter fun i => fitAt c ps i).map fun (i : Nat) => [(c : Int), (i : Int)]
def rowsTo (ps : List St) : Nat → List (List Int)
  | 0 => []
  | c + 1 => rowsTo ps c ++ rowsAt ps c ps.length
def chRows (ps : List St) : List (List Int) := if plainOk ps = true then rowsTo ps 5 else []
theorem rowsAt_len (ps : List St) (c k : Nat) : (rowsAt ps c k).length ≤ k := by
  unfold rowsAt
  rw [List.length_map]
  exact Nat.le_trans (List.length_filter_le _ _) (by simp)
theorem rowsTo_len (ps : List St) : ∀ c, (rowsTo ps c).length ≤ c * ps.length
  | 0 => by simp [rowsTo]
  | c + 1 => by
    have h1 := rowsTo_len ps c
    have h2 := rowsAt_len ps c ps.length
    rw [rowsTo, List.length_append, Nat.add_mul]
    omega
theorem ints_new {w : World} {base g : Nat} {ds : List Int} {n : Nat} {cs : Array Value} (h : Has w g 3 cs) (hc : cs.toList = ints ds) (hn : ds.length = n) (hg : base ≤ g) (hm : n ≤ maxLen) : IOwn w base (.slice (some ⟨g, 0, none⟩) n n) ds := IOwn.of_has h hc hn hg hm
end Go.Proofs.Ytkggejmamhakaaa

namespace Go.Proofs.Ytkggejmamhakaaa
set_option maxRecDepth 100000
set_option linter.unusedVariables false
/-- How many values a statement draws from. -/
def St.many (s : St) : Nat := if s.draws then 3 else 1
/-- A run that is at the end at the most. -/
def clp (m : Nat) (r : Rn) : Rn := ⟨min r.pos m, r.st, r.wt⟩
/-- The runs that come of one. -/
def prt (m : Nat) (s : St) (r : Rn) : List Rn := (List.range s.many).map fun (d : Nat) => clp m (Rn.step s r d)
theorem prt_length (m : Nat) (s : St) (r : Rn) : (prt m s r).length = s.many := by simp [prt]
/-- The cells of a row that has a number for each state. -/
def RowA (cs : Array Value) (g : Int → Int) : Prop := cs.size = 81 ∧ ∀ q : Nat, q < 81 → cs[q]? = some (.int .i64 (g q))
theorem RowA.congr {cs : Array Value} {g g' : Int → Int} (h : RowA cs g) (e : ∀ st, 0 ≤ st ∧ st ≤ 80 → g st = g' st) : RowA cs g' := ⟨h.1, fun q hq => by rw [← e q (by omega)]; exact h.2 q hq⟩
end Go.Proofs.Ytkggejmamhakaaa

namespace Go.Proofs.Ytkggejmamhakaaa
set_option maxRecDepth 100000
set_option linter.unusedVariables false
open Go.RowKit
/-- The cells of runs, as far as they are laid. -/
def PrtA (cs : Array Value) (rs : List Rn) (k : Nat) : Prop := cs.size = rs.length * 3 ∧ ∀ d r, d < k → rs[d]? = some r → cs[d * 3]? = some (.int .i64 r.pos) ∧ cs[d * 3 + 1]? = some (.int .i64 r.st) ∧ cs[d * 3 + 2]? = some (.int .i64 r.wt)
theorem PrtA.step {cs : Array Value} {rs : List Rn} {k : Nat} {r : Rn} (h : PrtA cs rs k) (hr : rs[k]? = some r) :
    PrtA (((cs.setIfInBounds (k * 3) (.int .i64 r.pos)).setIfInBounds (k * 3 + 1) (.int .i64 r.st)).setIfInBounds (k * 3 + 2) (.int .i64 r.wt)) rs (k + 1) := by
  have hl := (List.getElem?_eq_some_iff.1 hr).1
  refine ⟨by simp [h.1], fun d r' hd hr' => ?_⟩
  by_cases hdk : d = k
  · subst hdk
    obtain rfl : r = r' := Option.some.inj (hr.symm.trans hr')
    have hz := h.1
    refine ⟨?_, ?_, ?_⟩ <;> (simp only [Array.getElem?_setIfInBounds, Array.size_setIfInBounds, hz]; repeat' split) <;> first | rfl | omega | simp_all
  · obtain ⟨h0, h1, h2⟩ := h.2 d r' (by omega) hr'
    refine ⟨?_, ?_, ?_⟩ <;> (simp only [Array.getElem?_setIfInBounds, Array.size_setIfInBounds]; repeat' split) <;> first | assumption | omega | simp_all
end Go.Proofs.Ytkggejmamhakaaa

namespace Go.Proofs.Ytkggejmamhakaaa
set_option maxRecDepth 100000
set_option linter.unusedVariables false
open Go.RowKit
/-- The cells of a set of states. -/
def SetA (fa : Array Value) (f : Int → Bool) : Prop := fa.size = 81 ∧ ∀ q : Nat, q < 81 → fa[q]? = some (.bool (f q))
theorem SetA.one {fa : Array Value} {f : Int → Bool} (h : SetA fa f) : fa.all (·.oneCell') = true := by
  refine Array.all_eq_true_iff_forall_mem.2 fun u hu => ?_
  obtain ⟨i, hi, rfl⟩ := Array.mem_iff_getElem.1 hu
  have h2 := h.2 i (by rw [← h.1]; exact hi)
  rw [Array.getElem?_eq_getElem hi] at h2
  rw [Option.some.inj h2]; rfl
end Go.Proofs.Ytkggejmamhakaaa

namespace Go.Proofs.Ytkggejmamhakaaa
set_option maxRecDepth 100000
set_option linter.unusedVariables false
open Go.RowKit
/-- The cells of sets of states. -/
def LedA (cs : Array Value) (m : Nat) (led : Nat → Int → Bool) : Prop := cs.size = (m + 1) * 81 ∧ ∀ i q : Nat, i ≤ m → q < 81 → cs[i * 81 + q]? = some (.bool (led i q))
/-- Whither runs lead from a place and a state is whole. -/
def ClAt (os : List St) (led : Nat → Int → Bool) (i : Nat) (st : Int) : Prop := ∀ s, os[i]? = some s → led i st = true → ∀ r ∈ prt os.length s ⟨i, st, 1⟩, r.wt ≠ 0 → led r.pos r.st = true
def LedI (os : List St) (f : Int → Bool) (k : Nat) (ledk : Int → Bool) (q : Nat) (led : Nat → Int → Bool) : Prop :=
  (∀ st, led k st = ledk st) ∧ (∀ st, 0 ≤ st ∧ st ≤ 80 → led 0 st = f st) ∧ (∀ i, i < k → ∀ st, 0 ≤ st ∧ st ≤ 80 → ClAt os led i st) ∧ (∀ st : Int, 0 ≤ st ∧ st < (q : Int) → ClAt os led k st)
/-- The first parts of a run are led. -/
def LedP (led : Nat → Int → Bool) (rs : List Rn) (d : Nat) : Prop := ∀ i r, i < d → rs[i]? = some r → r.wt ≠ 0 → led r.pos r.st = true
theorem LedI.next {os : List St} {f : Int → Bool} {k q : Nat} {ledk : Int → Bool} {led : Nat → Int → Bool} {s : St} (h : LedI os f k ledk q led) (hs : os[k]? = some s) (hp : ledk q = true → LedP led (prt os.length s ⟨k, q, 1⟩) s.many) : LedI os f k ledk (q + 1) led :=
  ⟨h.1, h.2.1, h.2.2.1, fun st hst => by
    by_cases he : st = q
    · subst he
      intro s' hs' hl r hr hw
      obtain rfl : s = s' := Option.some.inj (hs.symm.trans hs')
      obtain ⟨i, hi⟩ := List.mem_iff_getElem?.1 hr
      have hl' := (List.getElem?_eq_some_iff.1 hi).1
      rw [prt_length] at hl'
      exact hp (by rw [← h.1]; exact hl) i r hl' hi hw
    · exact h.2.2.2 st (by omega)⟩
theorem LedI.on {os : List St} {f : Int → Bool} {k : Nat} {ledk : Int → Bool} {led : Nat → Int → Bool} (h : LedI os f k ledk 81 led) : LedI os f (k + 1) (led (k + 1)) 0 led :=
  ⟨fun _ => rfl, h.2.1, fun i hi st hs => by
    by_cases he : i = k
    · subst he
      exact h.2.2.2 st (by omega)
    · exact h.2.2.1 i (by omega) st hs, fun st hs => by omega⟩
theorem LedI.start {os : List St} {f : Int → Bool} {led : Nat → Int → Bool} : LedI os f 0 f 0 (fun i st => if i = 0 then f st else led i st) :=
  ⟨fun _ => rfl, fun _ _ => rfl, fun i hi => by omega, fun st hs => by omega⟩
/-- One of the sets of states. -/
theorem LedA.part {cs : Array Value} {m : Nat} {led : Nat → Int → Bool} (h : LedA cs m led) {k : Nat} (hk : k ≤ m) : SetA (cs.extract (k * 81) (k * 81 + 81)) (led k) := by
  have hz : k * 81 + 81 ≤ cs.size := by rw [h.1]; omega
  refine ⟨by simp; omega, fun q hq => ?_⟩
  rw [Array.getElem?_extract]
  rw [if_pos (by omega)]
  exact h.2 k q hk hq
end Go.Proofs.Ytkggejmamhakaaa

namespace Go.Proofs.Ytkggejmamhakaaa
set_option maxRecDepth 100000
set_option linter.unusedVariables false
open Go.RowKit
section
variable {P : Program} {ops : Array Oper} {Q : Exit → Act → World → Prop} {md : Region.Mode}
def openOps (listed : Array Bool) : Nat := (listed.toList.filter fun b => !b).length
theorem open_list : ∀ (l : List Bool) (i : Nat), l[i]? = some false → ((l.set i true).filter fun b => !b).length + 1 = (l.filter fun b => !b).length
  | [], i, h => by simp at h
  | b :: l, 0, h => by
    have e : b = false := by simpa using h
    subst e
    simp
  | b :: l, i + 1, h => by
    have ih := open_list l i (by simpa using h)
    cases b <;> simp <;> omega
theorem open_set {listed : Array Bool} {i : Nat} (h : listed[i]? = some false) : openOps (listed.setIfInBounds i true) + 1 = openOps listed := by
  unfold openOps
  rw [Array.toList_setIfInBounds]
  exact open_list _ _ (by simpa using h)
theorem getD_false {listed : Array Bool} {i : Nat} (h : listed.getD i true = false) : listed[i]? = some false := by
  rw [Array.getD_eq_getD_getElem?] at h
  cases he : listed[i]? with
  | none => rw [he] at h; cases h
  | some b => rw [he] at h; simp at h; rw [h]
theorem open_none {listed : Array Bool} (h : openOps listed = 0) {i : Nat} : listed[i]? ≠ some false := fun e => by
  have := open_set e
  omega
/-- A REGION THAT DRAWS ITS ORDER, by what holds of what is listed: one proof for each operation. -/
theorem wpAny_inv {I : Array Bool → Act → World → Prop} (hs : ∀ listed a w, I listed a w → ∀ i ∈ Region.ready md ops listed, wpOp P ops Q i (I (listed.setIfInBounds i true)) a w)
    (he : ∀ listed a w, I listed a w → Region.ready md ops listed = [] → Q .normal a w) : ∀ (fuel : Nat) (listed : Array Bool) (a : Act) (w : World), I listed a w → openOps listed ≤ fuel → wpAny P md ops Q fuel listed a w
  | 0, listed, a, w, h, hf => by
    have hr : Region.ready md ops listed = [] := by
      apply List.eq_nil_iff_forall_not_mem.2
      intro i hi
      exact open_none (by omega) (getD_false (mem_ready.1 hi).1)
    exact ⟨hr, he listed a w h hr⟩
  | fuel + 1, listed, a, w, h, hf => by
    refine ⟨fun hr => he listed a w h hr, fun i hi => wpOp_mono (fun a' w' h' => ?_) (hs listed a w h i hi)⟩
    have := open_set (getD_false (mem_ready.1 hi).1)
    exact wpAny_inv hs he fuel _ a' w' h' (by omega)
/-- Where nothing is ready, all is listed. -/
theorem ready_done {listed : Array Bool} (hz : listed.size = ops.size) (hlt : (List.range ops.size).all (fun k => ((ops[k]?).map fun o => o.after.all fun e => decide (e.on < k)).getD true) = true) (hr : Region.ready md ops listed = []) :
    ∀ k, k < ops.size → listed.getD k false = true := by
  intro k
  induction k using Nat.strongRecOn with
  | _ k ih =>
    intro hk
    apply Classical.byContradiction
    intro h0
    have hkl : k < listed.size := by omega
    have hb : listed[k]? = some false := by
      rw [Array.getElem?_eq_getElem hkl]
      rw [Array.getD_eq_getD_getElem?, Array.getElem?_eq_getElem hkl] at h0
      simp at h0
      rw [h0]
    have hm : k ∈ Region.ready md ops listed := by
      refine mem_ready.2 ⟨by rw [Array.getD_eq_getD_getElem?, hb]; rfl, ops[k], Array.getElem?_eq_getElem hk, fun e he _ => ?_⟩
      have h1 := List.all_eq_true.1 hlt k (List.mem_range.2 hk)
      rw [Array.getElem?_eq_getElem hk] at h1
      have h2 : ops[k].after.all (fun e => decide (e.on < k)) = true := h1
      have h3 := Array.all_eq_true_iff_forall_mem.1 h2 e he
      have h4 : e.on < k := by simpa using h3
      exact ih e.on h4 (by omega)
    rw [hr] at hm
    cases hm
theorem listed_ne {listed : Array Bool} {i k : Nat} (hk : i ≠ k) (e : (listed.setIfInBounds i true).getD k false = true) : listed.getD k false = true := by
  rwa [getD_set_ne false hk] at e
end
/-- All blocks that are known are as they were. -/
def Kp (w w' : World) : Prop := ∀ b t cs, Has w b t cs → Has w' b t cs
theorem Kp.alloc (w : World) (o : Obj) : Kp w (w.alloc o) := fun _ _ _ h => h.alloc o
theorem Kp.below {w w' : World} (h : Below w.heap.size w w') : Kp w w' := fun _ _ _ k => k.kept h
end Go.Proofs.Ytkggejmamhakaaa
