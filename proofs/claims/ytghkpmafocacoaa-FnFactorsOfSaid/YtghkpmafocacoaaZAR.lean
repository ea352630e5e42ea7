/- Parts of the proof: FU, Ra, FY, Ge. -/
import Derived.Test.YtghkpmafocacoaaZAP
import Derived.Test.YtghkpmafocacoaaZAM
import Derived.Test.YtghkpmafocacoaaZAN
namespace Go.Proofs.Ytghkpmafocacoaa
set_option maxRecDepth 100000
set_option linter.unusedVariables false
open Go.RowKit
theorem FcV.below {w w' : World} {base : Nat} {v1 v2 : Value} {F : Fac} (h : FcV w base v1 v2 F) (hb : Below w.heap.size w w') : FcV w' base v1 v2 F := ⟨h.1.below hb, h.2.1.below hb, h.2.2⟩
theorem FcV.none_ (w : World) (base : Nat) : FcV w base (.slice none 0 0) (.slice none 0 0) ⟨[], []⟩ := ⟨IOwn.nil _ _, IOwn.nil _ _, fun b h => by cases h⟩
theorem FcV.le {w : World} {base base' : Nat} {v1 v2 : Value} {F : Fac} (h : FcV w base v1 v2 F) (hb : base' ≤ base) : FcV w base' v1 v2 F := ⟨owns_le h.1 hb, owns_le h.2.1 hb, h.2.2⟩
theorem FcV.put2 {w : World} {base g : Nat} {v1 v2 : Value} {F : Fac} {cs : Array Value} (h : FcV w base v1 v2 F) (hg : Has w g 56 cs) (x y : Value) : FcV ((w.setCell ⟨g, 0, none⟩ x).setCell ⟨g, 1, none⟩ y) base v1 v2 F := by
  have hk := ((KeptBut.refl w (fun i => i = g)).put (p := ⟨g, 0, none⟩) (fun _ => rfl) x).put (p := ⟨g, 1, none⟩) (fun _ => rfl) y
  exact ⟨h.1.but hk (fun k hk e => iown_ne h.1 hg (by decide) k hk e), h.2.1.but hk (fun k hk e => iown_ne h.2.1 hg (by decide) k hk e), h.2.2⟩
theorem FcV.fac {w : World} {base n1 c1 n2 c2 : Nat} {A1 A2 : Option Addr} {F : Fac} (h : FcV w base (.slice A1 n1 c1) (.slice A2 n2 c2) F) : FacW w w.heap.size A1 n1 A2 n2 F := ⟨h.1.lst, h.2.1.lst⟩
end Go.Proofs.Ytghkpmafocacoaa

namespace Go.Proofs.Ytghkpmafocacoaa
open Go.RowKit Region
section
variable {P : Program} {ops : Array Oper} {Q : Exit → Act → World → Prop} {md : Region.Mode}
/-- Operations one behind the other. -/
def wpSeq (P : Program) (ops : Array Oper) (Q : Exit → Act → World → Prop) : Nat → Nat → Act → World → Prop
  | _, 0, a, w => Q .normal a w
  | i, c + 1, a, w => wpOp P ops Q i (wpSeq P ops Q (i + 1) c) a w
/-- All of the first ones are needed by a later one of them, or by the one behind them. -/
def feedsTo (md : Region.Mode) (ops : Array Oper) (n : Nat) : Bool := (List.range n).all fun k => (List.range (n + 1)).any fun j => decide (k < j) && ((ops[j]?).map fun o => o.after.any fun e => Region.binds md e && decide (e.on = k)).getD false
/-- Each one behind those needs the one ahead of it. -/
def chained (md : Region.Mode) (ops : Array Oper) (n c : Nat) : Bool := (List.range c).all fun i => decide (i = 0) || ((ops[n + i]?).map fun o => o.after.any fun e => Region.binds md e && decide (e.on + 1 = n + i)).getD false
theorem feedsTo_all {listed : Array Bool} {n : Nat} (hn : n < ops.size) (hf : feedsTo md ops n = true) (hc : Clsd md ops listed) (hl : ∀ o, ops[n]? = some o → ∀ e ∈ o.after, Region.binds md e = true → listed.getD e.on false = true) : ∀ d k, n ≤ k + d → k < n → listed.getD k false = true
  | 0, k, h1, h2 => by omega
  | d + 1, k, h1, h2 => by
    have h3 := List.all_eq_true.1 hf k (List.mem_range.2 (by omega))
    obtain ⟨j, hj, h4⟩ := List.any_eq_true.1 h3
    rw [Bool.and_eq_true] at h4
    have hjn := List.mem_range.1 hj
    have hkj := of_decide_eq_true h4.1
    obtain ⟨o, ho⟩ : ∃ o, ops[j]? = some o := ⟨_, Array.getElem?_eq_getElem (by omega)⟩
    have h5 := h4.2
    rw [ho] at h5
    have h6 : (o.after.any fun e => Region.binds md e && decide (e.on = k)) = true := h5
    obtain ⟨e, he, h7⟩ : ∃ e ∈ o.after, (Region.binds md e && decide (e.on = k)) = true := by
      rw [← Array.any_toList] at h6
      obtain ⟨e, he, h7⟩ := List.any_eq_true.1 h6
      exact ⟨e, Array.mem_toList_iff.1 he, h7⟩
    rw [Bool.and_eq_true] at h7
    have hk := of_decide_eq_true h7.2
    rw [← hk]
    by_cases hjl : j = n
    · subst hjl
      exact hl o ho e he h7.1
    · exact hc j o ho (feedsTo_all hn hf hc hl d j (by omega) (by omega)) e he h7.1
theorem getD_any {listed : Array Bool} {k : Nat} (hk : k < listed.size) (d d' : Bool) : listed.getD k d = listed.getD k d' := by
  rw [Array.getD_eq_getD_getElem?, Array.getD_eq_getD_getElem?, Array.getElem?_eq_getElem hk]
  rfl
theorem wpAny_tail {I : Array Bool → Act → World → Prop} {n c : Nat} (hn : ops.size = n + (c + 1)) (hf : feedsTo md ops n = true) (hch : chained md ops n (c + 1) = true)
    (hlt : (List.range ops.size).all (fun k => ((ops[k]?).map fun o => o.after.all fun e => decide (e.on < k)).getD true) = true)
    (hs : ∀ listed a w, I listed a w → ∀ i, i < n → i ∈ Region.ready md ops listed → wpOp P ops Q i (I (listed.setIfInBounds i true)) a w)
    (hl : ∀ listed a w, I listed a w → (∀ k, k < n → listed.getD k false = true) → wpSeq P ops Q n (c + 1) a w) (listed : Array Bool) (a : Act) (w : World) (hI : I listed a w) (hz : listed.size = n + (c + 1)) (h0 : (List.range (n + (c + 1))).all (fun k => !listed.getD k true) = true) (fuel : Nat) (hfu : openOps listed ≤ fuel) : wpAny P md ops Q fuel listed a w := by
  have hfalse : ∀ k, k < n + (c + 1) → listed.getD k false = false := fun k hk => by
    have := List.all_eq_true.1 h0 k (List.mem_range.2 hk)
    rw [getD_any (by omega) true false] at this
    simpa using this
  refine wpAny_inv (I := fun li a w => li.size = n + (c + 1) ∧ ((∀ k, n ≤ k → k < n + (c + 1) → li.getD k false = false) ∧ Clsd md ops li ∧ I li a w ∨ ∃ i, n < i ∧ i ≤ n + (c + 1) ∧ (∀ k, k < i → li.getD k false = true) ∧ (∀ k, i ≤ k → k < n + (c + 1) → li.getD k false = false) ∧ wpSeq P ops Q i (n + (c + 1) - i) a w)) ?_ ?_ fuel listed a w ⟨hz, .inl ⟨fun k _ hk => hfalse k hk, ?_, hI⟩⟩ hfu
  · rintro li a w ⟨hz, h⟩ i hi
    obtain ⟨h0, o, ho, hd⟩ := mem_ready.1 hi
    have hin : i < n + (c + 1) := by
      have := (Array.getElem?_eq_some_iff.1 ho).1
      omega
    have hi0 : li.getD i false = false := by rw [getD_any (by omega) false true]; exact h0
    have hset : ∀ k, k < n + (c + 1) → k ≠ i → (li.setIfInBounds i true).getD k false = li.getD k false := fun k hk hne => getD_set_ne false (Ne.symm hne)
    have hself : (li.setIfInBounds i true).getD i false = true := by
      rw [Array.getD_eq_getD_getElem?, Array.getElem?_setIfInBounds_self_of_lt (by omega)]
      rfl
    rcases h with ⟨hno, hc, hI⟩ | ⟨j, hj1, hj2, hjt, hjf, hq⟩
    · by_cases hil : i < n
      · refine wpOp_mono (fun a' w' h' => ⟨by simpa using hz, .inl ⟨fun k h1 h2 => ?_, clsd_set hc hi, h'⟩⟩) (hs li a w hI i hil hi)
        rw [hset k h2 (by omega)]
        exact hno k h1 h2
      · have hin0 : i = n := by
          apply Classical.byContradiction
          intro hne
          have h1 := List.all_eq_true.1 hch (i - n) (List.mem_range.2 (by omega))
          rw [Bool.or_eq_true] at h1
          rcases h1 with h1 | h1
          · have := of_decide_eq_true h1; omega
          · have e1 : n + (i - n) = i := by omega
            rw [e1, ho] at h1
            have h6 : (o.after.any fun e => Region.binds md e && decide (e.on + 1 = i)) = true := h1
            rw [← Array.any_toList] at h6
            obtain ⟨e, he, h7⟩ := List.any_eq_true.1 h6
            rw [Bool.and_eq_true] at h7
            have h8 := of_decide_eq_true h7.2
            have h9 := hd e (Array.mem_toList_iff.1 he) h7.1
            rw [hno e.on (by omega) (by omega)] at h9
            cases h9
        subst hin0
        have hB := fun k (hk : k < i) => feedsTo_all (by omega) hf hc (fun o' ho' => by
          rw [ho] at ho'
          injection ho' with ho'
          subst ho'
          exact hd) i k (by omega) hk
        refine wpOp_mono (fun a' w' h' => ⟨by simpa using hz, .inr ⟨i + 1, by omega, by omega, fun k hk => ?_, fun k h1 h2 => ?_, ?_⟩⟩) (hl li a w hI hB)
        · by_cases hki : k = i
          · subst hki; exact hself
          · rw [hset k (by omega) hki]; exact hB k (by omega)
        · rw [hset k h2 (by omega)]; exact hno k (by omega) h2
        · have e1 : i + (c + 1) - (i + 1) = c := by omega
          rw [e1]
          exact h'
    · have hij : i = j := by
        apply Classical.byContradiction
        intro hne
        by_cases hlt' : i < j
        · rw [hjt i hlt'] at hi0
          cases hi0
        · have h1 := List.all_eq_true.1 hch (i - n) (List.mem_range.2 (by omega))
          rw [Bool.or_eq_true] at h1
          rcases h1 with h1 | h1
          · have := of_decide_eq_true h1; omega
          · have e1 : n + (i - n) = i := by omega
            rw [e1, ho] at h1
            have h6 : (o.after.any fun e => Region.binds md e && decide (e.on + 1 = i)) = true := h1
            rw [← Array.any_toList] at h6
            obtain ⟨e, he, h7⟩ := List.any_eq_true.1 h6
            rw [Bool.and_eq_true] at h7
            have h8 := of_decide_eq_true h7.2
            have h9 := hd e (Array.mem_toList_iff.1 he) h7.1
            rw [hjf e.on (by omega) (by omega)] at h9
            cases h9
      subst hij
      obtain ⟨d, hd'⟩ : ∃ d, n + (c + 1) - i = d + 1 := ⟨n + (c + 1) - i - 1, by omega⟩
      rw [hd'] at hq
      refine wpOp_mono (fun a' w' h' => ⟨by simpa using hz, .inr ⟨i + 1, by omega, by omega, fun k hk => ?_, fun k h1 h2 => ?_, ?_⟩⟩) hq
      · by_cases hki : k = i
        · subst hki; exact hself
        · rw [hset k (by omega) hki]; exact hjt k (by omega)
      · rw [hset k h2 (by omega)]; exact hjf k (by omega) h2
      · have e1 : n + (c + 1) - (i + 1) = d := by omega
        rw [e1]
        exact h'
  · rintro li a w ⟨hz, h⟩ hr
    have hall := ready_done (by omega) hlt hr
    rcases h with ⟨hno, hc, hI⟩ | ⟨i, hi1, hi2, hit, hif, hq⟩
    · have h1 := hno n (by omega) (by omega)
      rw [hall n (by omega)] at h1
      cases h1
    · have hin : i = n + (c + 1) := by
        apply Classical.byContradiction
        intro hne
        have h1 := hif i (by omega) (by omega)
        rw [hall i (by omega)] at h1
        cases h1
      subst hin
      rw [Nat.sub_self] at hq
      exact hq
  · intro k o ho hk
    have hkn : k < n + (c + 1) := by
      have := (Array.getElem?_eq_some_iff.1 ho).1
      omega
    rw [hfalse k hkn] at hk
    cases hk
end
end Go.Proofs.Ytghkpmafocacoaa

namespace Go.Proofs.Ytghkpmafocacoaa
set_option maxRecDepth 100000
set_option linter.unusedVariables false
open Go.RowKit
theorem grown_but_ {w w' : World} {row : Option Nat} (h : w.grownBy w' row) : KeptBut w w' (fun i => row = some i) := ⟨h.os, h.tape, h.output, h.size, fun i hi hn => h.block i hi (fun e => hn e.symm)⟩
/-- A factor in a variable, a number of which is appended. -/
theorem FacN.grow {w wx w6 : World} {G gr cr n : Nat} {v1 v2 : Value} {vs ds : List Int} {x : Int} (h : FacN w wx G v1 v2 vs ds) (hl : ds.length = n) (hG : w.heap.size < G) (hd : ∀ b, v1.ownBlock = some b → v2.ownBlock ≠ some b)
    (hown : w6.ownsRow w.heap.size 3 1 (.slice (some ⟨gr, 0, none⟩) (n + 1) cr) (n + 1) (ints ds ++ [.int .i64 x])) (hgrow : wx.grownBy w6 v2.ownBlock) (hat : v2.ownBlock = some gr ∨ gr = wx.heap.size) :
    FacN w (w6.setCell ⟨G, 1, none⟩ (.slice (some ⟨gr, 0, none⟩) (n + 1) cr)) G v1 (.slice (some ⟨gr, 0, none⟩) (n + 1) cr) vs (ds ++ [x]) ∧ (∀ b, v1.ownBlock = some b → (Value.slice (some ⟨gr, 0, none⟩) (n + 1) cr).ownBlock ≠ some b) := by
  subst hl
  obtain ⟨h1, h2, h3, h4, h5⟩ := h
  have hA := IOwn.append_ (news := [x]) h1 hown hgrow h5 h5.size
  have hK := grown_but_ hgrow
  have k2 := h2.but hK (fun k e1 e2 => hd k e1 e2)
  have k3 := h3.but hK (fun e => iown_ne h1 h3 (by decide) G e rfl)
  have k4 := h4.but hK (fun e => iown_ne h1 h4 (by decide) _ e rfl)
  have hp : KeptBut w6 (w6.setCell ⟨G, 1, none⟩ (.slice (some ⟨gr, 0, none⟩) (ds.length + 1) cr)) (fun i => i = G) := (KeptBut.refl w6 (fun i => i = G)).put (p := ⟨G, 1, none⟩) (fun _ => rfl) _
  refine ⟨⟨hA.1.but hp (fun k e1 e2 => iown_ne hA.1 k3 (by decide) k e1 e2), k2.but hp (fun k e1 e2 => iown_ne k2 k3 (by decide) k e1 e2), ?_, ?_, hA.2.setCell (p := ⟨G, 1, none⟩) (Nat.le_of_lt hG) _⟩, ?_⟩
  · have := k3.put 1 (.slice (some ⟨gr, 0, none⟩) (ds.length + 1) cr)
    exact this
  · have hne : w.heap.size ≠ G := by omega
    exact k4.far (p := ⟨G, 1, none⟩) hne _
  · intro b hb e
    have e1 : gr = b := by simpa [Value.ownBlock] using e
    subst e1
    rcases hat with hat | hat
    · exact hd _ hb hat
    · obtain ⟨c1, g1⟩ := owns_has h2 hb
      have := g1.lt
      omega
end Go.Proofs.Ytghkpmafocacoaa

namespace Go.Proofs.Ytghkpmafocacoaa
set_option maxRecDepth 100000
set_option linter.unusedVariables false
open Go.RowKit
theorem kind_two {s : St} (h : s.ok = true) (h6 : s.k < 6) : (s.draws || s.weighs) = !decide (s.k < 2) := by
  have h8 := ok_rng (k := s.k) (a := s.a) (b := s.b) (c := s.c) (u := s.u) (v := s.v) (x := s.x) h
  unfold St.draws St.weighs
  by_cases h2 : s.k < 2
  · have e : ¬ s.k = 2 ∧ ¬ s.k = 3 ∧ ¬ s.k = 4 ∧ ¬ s.k = 5 := by omega
    simp [h2, e.1, e.2.1, e.2.2.1, e.2.2.2]
  · have e : s.k = 2 ∨ s.k = 3 ∨ s.k = 4 ∨ s.k = 5 := by omega
    rcases e with e | e | e | e <;> simp [e]
set_option maxHeartbeats 2000000 in
theorem specSingleOk_any (A : Option Addr) (n c : Nat) (ps : List St) (w : World) (h : Lst w w.heap.size A n ps) (hn : n ≤ c) (hc : c ≤ maxLen) (hbig : n ≤ 1048576) :
    Calls Try.prog 116 #[.slice A n c] w fun e w' => e = .returned (.bool (single ps)) ∧ Below w.heap.size w w' := by
  have hC := Lib.hid (fun wx (hx : Lst wx wx.heap.size A n ps) => specPlainOk_any A n c ps wx hx hn hc hbig)
  have hl := h.1
  have hH := Lib.hid h
  have hcc : n ≤ 9223372036854775807 := by unfold maxLen at hc; omega
  clear h hc
  cases hp : plainOk ps
  · have hR := Lib.hid (show single ps = false by unfold single; rw [hp]; rfl)
    rw [hp] at hC
    clear hp
    go_enter Try.func116, Try.ntmps116
    go_wp2_with fail
    refine (hC.out _ hH.out).mono ?_
    rintro e w1 ⟨rfl, hb⟩
    go_wp2_with fail
    go_ret
    exact ⟨ret_bool hR.out, hb⟩
  · have hOK := Lib.hid (plain_oks hp)
    rw [hp] at hC
    by_cases hn4 : n ≤ 4
    · have hn4' : ¬ (n : Int) > 4 := by omega
      have hS := Lib.hid (show single ps = singF ps 0 by unfold single; rw [hp, decide_eq_true (by omega)]; rfl)
      clear hp
      go_enter Try.func116, Try.ntmps116
      go_wp2_with fail
      refine (hC.out _ hH.out).mono ?_
      rintro e w1 ⟨rfl, hb⟩
      have hbh := Lib.hid hb
      clear hb
      go_wp2_with fail
      go_loopg [3, 4] n (fun gn o v wr => ∃ (k : Nat) (L : Int), k ≤ n ∧ gn = n - k ∧ v = .int .i64 k ∧ o = .int .i64 L ∧ (0 ≤ L ∧ L ≤ 15) ∧ singF ps 0 = singF (ps.drop k) L ∧ Below w.heap.size w wr)
      case atStart => exact ⟨0, 0, Nat.zero_le _, rfl, rfl, rfl, by decide, rfl, hbh.out⟩
      case round =>
        obtain ⟨k, L, hk, hgn, rfl, rfl, hL, hSF, hB⟩ := hrel
        have hgk : gk = n - k := hgn
        have hBh := Lib.hid hB
        clear hgn
        by_cases hlt : k < n
        · obtain ⟨g, off, s, rfl, hg, hs, hat⟩ := (hH.out.below hB).at_ hlt
          obtain ⟨c0, c1, c2, c3, c4, c5, c6⟩ := hat.open_
          have hk0 : (0 : Int) ≤ (k : Int) := by omega
          have hk1 : (k : Int) < (n : Int) := by omega
          have hz := hB.size
          obtain ⟨hok, hk6⟩ := hOK.out s (List.mem_of_getElem? hs)
          have hst := sing_step (L := L) hs
          rw [hst] at hSF
          have hSFh := Lib.hid hSF
          have hkt := kind_two hok hk6
          have cZ : Hid (∀ wx : World, Calls Try.prog 158 #[.agg #[.int .i64 s.k, .int .i64 s.a, .int .i64 s.b, .int .i64 s.c, .int .i64 s.u, .int .i64 s.v, .int .i64 s.x]] wx fun e w' => e = .returned (.int .i64 s.sets) ∧ Below wx.heap.size wx w') := Lib.hid (fun wx => specStmtSets_any s.k s.a s.b s.c s.u s.v s.x wx)
          have cN := Lib.hid (fun wx => l6Touch_any s wx hok)
          rw [touch_named s hok] at cN
          have hbx := Lib.hid (Has.new wr 116 #[.int .i64 s.k, .int .i64 s.a, .int .i64 s.b, .int .i64 s.c, .int .i64 s.u, .int .i64 s.v, .int .i64 s.x])
          have hB0 := Lib.hid (hB.alloc hz (.cells #[.int .i64 s.k, .int .i64 s.a, .int .i64 s.b, .int .i64 s.c, .int .i64 s.u, .int .i64 s.v, .int .i64 s.x] 116))
          have hor := bits_or hL (named_bd s)
          have hNb := Lib.hid (bor_bd (a := L) (b := named s) hL.2 (named_bd s).2)
          have hone := Lib.hid (show oneOk s L = (!decide (s.k < 2) && !(decide (0 ≤ s.sets) && tb L s.sets.toNat)) from by unfold oneOk; rw [hkt])
          have hzb := sets_bd s hok
          clear hSF hst hs hat hB hok hkt
          generalize oneOk s L = o1 at hSFh hone
          generalize s.sets = Z at *
          by_cases h2 : s.k < 2
          · have hR := Lib.hid (show single ps = false by rw [hS.out, hSFh.out, hone.out, decide_eq_true h2]; rfl)
            go_wp2_with fail
            go_ret
            exact ⟨ret_bool hR.out, hB0.out⟩
          · by_cases hz0 : 0 ≤ Z
            · obtain ⟨z, rfl, hz3⟩ := nat4 hz0 hzb.2
              have hsh := shr1_tbF hL hz3
              have hz64 : (z : Int) ≤ 64 := by omega
              rw [Int.toNat_natCast] at hone
              cases ht : tb L z
              · have ho1 : o1 = true := by rw [hone.out, ht, decide_eq_false h2, Bool.and_false]; rfl
                rw [ho1, Bool.true_and] at hSFh
                rw [ht] at hsh
                clear ht
                go_wp2_with fail
                clear c0 c1 c2 c3 c4 c5 c6
                generalize wr.alloc (.cells #[.int .i64 s.k, .int .i64 s.a, .int .i64 s.b, .int .i64 s.c, .int .i64 s.u, .int .i64 s.v, .int .i64 s.x] 116) = W0 at hbx hB0 ⊢
                refine (cZ.out _).mono ?_
                rintro e w2 ⟨rfl, hb2⟩
                have hB2 := Lib.hid (hB0.out.trans (hb2.mono hB0.out.size))
                have hx2 := Lib.hid (hbx.out.kept hb2)
                have cx := hx2.out.cell
                clear hb2
                go_wp2_with fail
                refine (cN.out _).mono ?_
                rintro e w5 ⟨rfl, hb5⟩
                have hB5 := Lib.hid (hB2.out.trans (hb5.mono hB2.out.size))
                clear hb5 cx
                go_wp2_with fail
                go_roundg (n - (k + 1))
                case measure => omega
                case rel => exact ⟨k + 1, _, by omega, rfl, by go_num, rfl, hNb.out, hSFh.out, hB5.out⟩
              · have hR := Lib.hid (show single ps = false by rw [hS.out, hSFh.out, hone.out, ht, decide_eq_true hz0, Bool.and_self, Bool.not_true, Bool.and_false]; rfl)
                rw [ht] at hsh
                clear ht
                go_wp2_with fail
                clear c0 c1 c2 c3 c4 c5 c6
                generalize wr.alloc (.cells #[.int .i64 s.k, .int .i64 s.a, .int .i64 s.b, .int .i64 s.c, .int .i64 s.u, .int .i64 s.v, .int .i64 s.x] 116) = W0 at hbx hB0 ⊢
                refine (cZ.out _).mono ?_
                rintro e w2 ⟨rfl, hb2⟩
                have hB2 := Lib.hid (hB0.out.trans (hb2.mono hB0.out.size))
                have hx2 := Lib.hid (hbx.out.kept hb2)
                have cx := hx2.out.cell
                clear hb2
                go_wp2_with fail
                go_ret
                exact ⟨ret_bool hR.out, hB2.out⟩
            · have ho1 : o1 = true := by rw [hone.out, decide_eq_false h2, decide_eq_false hz0]; rfl
              rw [ho1, Bool.true_and] at hSFh
              go_wp2_with fail
              clear c0 c1 c2 c3 c4 c5 c6
              generalize wr.alloc (.cells #[.int .i64 s.k, .int .i64 s.a, .int .i64 s.b, .int .i64 s.c, .int .i64 s.u, .int .i64 s.v, .int .i64 s.x] 116) = W0 at hbx hB0 ⊢
              refine (cZ.out _).mono ?_
              rintro e w2 ⟨rfl, hb2⟩
              have hB2 := Lib.hid (hB0.out.trans (hb2.mono hB0.out.size))
              have hx2 := Lib.hid (hbx.out.kept hb2)
              have cx := hx2.out.cell
              clear hb2
              go_wp2_with fail
              refine (cN.out _).mono ?_
              rintro e w5 ⟨rfl, hb5⟩
              have hB5 := Lib.hid (hB2.out.trans (hb5.mono hB2.out.size))
              clear hb5 cx
              go_wp2_with fail
              go_roundg (n - (k + 1))
              case measure => omega
              case rel => exact ⟨k + 1, _, by omega, rfl, by go_num, rfl, hNb.out, hSFh.out, hB5.out⟩
        · obtain rfl : k = n := by omega
          have hR := Lib.hid (show single ps = true by rw [hS.out, hSF, List.drop_eq_nil_of_le (by omega)]; rfl)
          go_wp2_with fail
          go_ret
          exact ⟨ret_bool hR.out, hBh.out⟩
    · have hn4' : (n : Int) > 4 := by omega
      have hR := Lib.hid (show single ps = false by unfold single; rw [decide_eq_false (by omega), Bool.false_and, Bool.and_false])
      clear hp
      go_enter Try.func116, Try.ntmps116
      go_wp2_with fail
      refine (hC.out _ hH.out).mono ?_
      rintro e w1 ⟨rfl, hb⟩
      go_wp2_with fail
      go_ret
      exact ⟨ret_bool hR.out, hb⟩
end Go.Proofs.Ytghkpmafocacoaa
