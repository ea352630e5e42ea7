/- Parts of the proof: Ra, FY, Dr. -/
import Derived.Test.YtaipdkfbkcknkaaZAE
import Derived.Test.YtaipdkfbkcknkaaZAG
import Derived.Test.YtaipdkfbkcknkaaZAC
import Derived.Test.YtaipdkfbkcknkaaZAA
namespace Go.Proofs.Ytaipdkfbkcknkaa
open Go.RowKit Region
section
variable {P : Program} {ops : Array Oper} {Q : Exit → Act → World → Prop} {md : Region.Mode}
/-- Operations one behind the other. -/
def wpSeq (P : Program) (ops : Array Oper) (Q : Exit → Act → World → Prop) : Nat → Nat → Act → World → Prop
  | _, 0, a, w => Q .normal a w
  | i, c + 1, a, w => wpOp P ops Q i (wpSeq P ops Q (i + 1) c) a w
/-- All of the first ones are needed by a later one of them, or by the one behind them. -/
def feedsTo (md : Region.Mode) (ops : Array Oper) (n : Nat) : Bool := (List.range n).all fun k => (List.range (n + 1)).any fun j => decide (k < j) && ((ops[j]?).map fun o => o.after.any fun e => Region.binds md e && decide (e.on = k)).getD false
/-- Each one behind those needs the one ahead of it. -/
def chained (md : Region.Mode) (ops : Array Oper) (n c : Nat) : Bool := (List.range c).all fun i => decide (i = 0) || ((ops[n + i]?).map fun o => o.after.any fun e => Region.binds md e && decide (e.on + 1 = n + i)).getD false
theorem feedsTo_all {listed : Array Bool} {n : Nat} (hn : n < ops.size) (hf : feedsTo md ops n = true) (hc : Clsd md ops listed) (hl : ∀ o, ops[n]? = some o → ∀ e ∈ o.after, Region.binds md e = true → listed.getD e.on false = true) : ∀ d k, n ≤ k + d → k < n → listed.getD k false = true
  | 0, k, h1, h2 => by omega
  | d + 1, k, h1, h2 => by
    have h3 := List.all_eq_true.1 hf k (List.mem_range.2 (by omega))
    obtain ⟨j, hj, h4⟩ := List.any_eq_true.1 h3
    rw [Bool.and_eq_true] at h4
    have hjn := List.mem_range.1 hj
    have hkj := of_decide_eq_true h4.1
    obtain ⟨o, ho⟩ : ∃ o, ops[j]? = some o := ⟨_, Array.getElem?_eq_getElem (by omega)⟩
    have h5 := h4.2
    rw [ho] at h5
    have h6 : (o.after.any fun e => Region.binds md e && decide (e.on = k)) = true := h5
    obtain ⟨e, he, h7⟩ : ∃ e ∈ o.after, (Region.binds md e && decide (e.on = k)) = true := by
      rw [← Array.any_toList] at h6
      obtain ⟨e, he, h7⟩ := List.any_eq_true.1 h6
      exact ⟨e, Array.mem_toList_iff.1 he, h7⟩
    rw [Bool.and_eq_true] at h7
    have hk := of_decide_eq_true h7.2
    rw [← hk]
    by_cases hjl : j = n
    · subst hjl
      exact hl o ho e he h7.1
    · exact hc j o ho (feedsTo_all hn hf hc hl d j (by omega) (by omega)) e he h7.1
theorem getD_any {listed : Array Bool} {k : Nat} (hk : k < listed.size) (d d' : Bool) : listed.getD k d = listed.getD k d' := by
  rw [Array.getD_eq_getD_getElem?, Array.getD_eq_getD_getElem?, Array.getElem?_eq_getElem hk]
  rfl
theorem wpAny_tail {I : Array Bool → Act → World → Prop} {n c : Nat} (hn : ops.size = n + (c + 1)) (hf : feedsTo md ops n = true) (hch : chained md ops n (c + 1) = true)
    (hlt : (List.range ops.size).all (fun k => ((ops[k]?).map fun o => o.after.all fun e => decide (e.on < k)).getD true) = true)
    (hs : ∀ listed a w, I listed a w → ∀ i, i < n → i ∈ Region.ready md ops listed → wpOp P ops Q i (I (listed.setIfInBounds i true)) a w)
    (hl : ∀ listed a w, I listed a w → (∀ k, k < n → listed.getD k false = true) → wpSeq P ops Q n (c + 1) a w) (listed : Array Bool) (a : Act) (w : World) (hI : I listed a w) (hz : listed.size = n + (c + 1)) (h0 : (List.range (n + (c + 1))).all (fun k => !listed.getD k true) = true) (fuel : Nat) (hfu : openOps listed ≤ fuel) : wpAny P md ops Q fuel listed a w := by
  have hfalse : ∀ k, k < n + (c + 1) → listed.getD k false = false := fun k hk => by
    have := List.all_eq_true.1 h0 k (List.mem_range.2 hk)
    rw [getD_any (by omega) true false] at this
    simpa using this
  refine wpAny_inv (I := fun li a w => li.size = n + (c + 1) ∧ ((∀ k, n ≤ k → k < n + (c + 1) → li.getD k false = false) ∧ Clsd md ops li ∧ I li a w ∨ ∃ i, n < i ∧ i ≤ n + (c + 1) ∧ (∀ k, k < i → li.getD k false = true) ∧ (∀ k, i ≤ k → k < n + (c + 1) → li.getD k false = false) ∧ wpSeq P ops Q i (n + (c + 1) - i) a w)) ?_ ?_ fuel listed a w ⟨hz, .inl ⟨fun k _ hk => hfalse k hk, ?_, hI⟩⟩ hfu
  · rintro li a w ⟨hz, h⟩ i hi
    obtain ⟨h0, o, ho, hd⟩ := mem_ready.1 hi
    have hin : i < n + (c + 1) := by
      have := (Array.getElem?_eq_some_iff.1 ho).1
      omega
    have hi0 : li.getD i false = false := by rw [getD_any (by omega) false true]; exact h0
    have hset : ∀ k, k < n + (c + 1) → k ≠ i → (li.setIfInBounds i true).getD k false = li.getD k false := fun k hk hne => getD_set_ne false (Ne.symm hne)
    have hself : (li.setIfInBounds i true).getD i false = true := by
      rw [Array.getD_eq_getD_getElem?, Array.getElem?_setIfInBounds_self_of_lt (by omega)]
      rfl
    rcases h with ⟨hno, hc, hI⟩ | ⟨j, hj1, hj2, hjt, hjf, hq⟩
    · by_cases hil : i < n
      · refine wpOp_mono (fun a' w' h' => ⟨by simpa using hz, .inl ⟨fun k h1 h2 => ?_, clsd_set hc hi, h'⟩⟩) (hs li a w hI i hil hi)
        rw [hset k h2 (by omega)]
        exact hno k h1 h2
      · have hin0 : i = n := by
          apply Classical.byContradiction
          intro hne
          have h1 := List.all_eq_true.1 hch (i - n) (List.mem_range.2 (by omega))
          rw [Bool.or_eq_true] at h1
          rcases h1 with h1 | h1
          · have := of_decide_eq_true h1; omega
          · have e1 : n + (i - n) = i := by omega
            rw [e1, ho] at h1
            have h6 : (o.after.any fun e => Region.binds md e && decide (e.on + 1 = i)) = true := h1
            rw [← Array.any_toList] at h6
            obtain ⟨e, he, h7⟩ := List.any_eq_true.1 h6
            rw [Bool.and_eq_true] at h7
            have h8 := of_decide_eq_true h7.2
            have h9 := hd e (Array.mem_toList_iff.1 he) h7.1
            rw [hno e.on (by omega) (by omega)] at h9
            cases h9
        subst hin0
        have hB := fun k (hk : k < i) => feedsTo_all (by omega) hf hc (fun o' ho' => by
          rw [ho] at ho'
          injection ho' with ho'
          subst ho'
          exact hd) i k (by omega) hk
        refine wpOp_mono (fun a' w' h' => ⟨by simpa using hz, .inr ⟨i + 1, by omega, by omega, fun k hk => ?_, fun k h1 h2 => ?_, ?_⟩⟩) (hl li a w hI hB)
        · by_cases hki : k = i
          · subst hki; exact hself
          · rw [hset k (by omega) hki]; exact hB k (by omega)
        · rw [hset k h2 (by omega)]; exact hno k (by omega) h2
        · have e1 : i + (c + 1) - (i + 1) = c := by omega
          rw [e1]
          exact h'
    · have hij : i = j := by
        apply Classical.byContradiction
        intro hne
        by_cases hlt' : i < j
        · rw [hjt i hlt'] at hi0
          cases hi0
        · have h1 := List.all_eq_true.1 hch (i - n) (List.mem_range.2 (by omega))
          rw [Bool.or_eq_true] at h1
          rcases h1 with h1 | h1
          · have := of_decide_eq_true h1; omega
          · have e1 : n + (i - n) = i := by omega
            rw [e1, ho] at h1
            have h6 : (o.after.any fun e => Region.binds md e && decide (e.on + 1 = i)) = true := h1
            rw [← Array.any_toList] at h6
            obtain ⟨e, he, h7⟩ := List.any_eq_true.1 h6
            rw [Bool.and_eq_true] at h7
            have h8 := of_decide_eq_true h7.2
            have h9 := hd e (Array.mem_toList_iff.1 he) h7.1
            rw [hjf e.on (by omega) (by omega)] at h9
            cases h9
      subst hij
      obtain ⟨d, hd'⟩ : ∃ d, n + (c + 1) - i = d + 1 := ⟨n + (c + 1) - i - 1, by omega⟩
      rw [hd'] at hq
      refine wpOp_mono (fun a' w' h' => ⟨by simpa using hz, .inr ⟨i + 1, by omega, by omega, fun k hk => ?_, fun k h1 h2 => ?_, ?_⟩⟩) hq
      · by_cases hki : k = i
        · subst hki; exact hself
        · rw [hset k (by omega) hki]; exact hjt k (by omega)
      · rw [hset k h2 (by omega)]; exact hjf k (by omega) h2
      · have e1 : n + (c + 1) - (i + 1) = d := by omega
        rw [e1]
        exact h'
  · rintro li a w ⟨hz, h⟩ hr
    have hall := ready_done (by omega) hlt hr
    rcases h with ⟨hno, hc, hI⟩ | ⟨i, hi1, hi2, hit, hif, hq⟩
    · have h1 := hno n (by omega) (by omega)
      rw [hall n (by omega)] at h1
      cases h1
    · have hin : i = n + (c + 1) := by
        apply Classical.byContradiction
        intro hne
        have h1 := hif i (by omega) (by omega)
        rw [hall i (by omega)] at h1
        cases h1
      subst hin
      rw [Nat.sub_self] at hq
      exact hq
  · intro k o ho hk
    have hkn : k < n + (c + 1) := by
      have := (Array.getElem?_eq_some_iff.1 ho).1
      omega
    rw [hfalse k hkn] at hk
    cases hk
end
end Go.Proofs.Ytaipdkfbkcknkaa

namespace Go.Proofs.Ytaipdkfbkcknkaa
set_option maxRecDepth 100000
set_option linter.unusedVariables false
open Go.RowKit
theorem grown_but_ {w w' : World} {row : Option Nat} (h : w.grownBy w' row) : KeptBut w w' (fun i => row = some i) := ⟨h.os, h.tape, h.output, h.size, fun i hi hn => h.block i hi (fun e => hn e.symm)⟩
/-- A factor in a variable, a number of which is appended. -/
theorem FacN.grow {w wx w6 : World} {G gr cr n : Nat} {v1 v2 : Value} {vs ds : List Int} {x : Int} (h : FacN w wx G v1 v2 vs ds) (hl : ds.length = n) (hG : w.heap.size < G) (hd : ∀ b, v1.ownBlock = some b → v2.ownBlock ≠ some b)
    (hown : w6.ownsRow w.heap.size 3 1 (.slice (some ⟨gr, 0, none⟩) (n + 1) cr) (n + 1) (ints ds ++ [.int .i64 x])) (hgrow : wx.grownBy w6 v2.ownBlock) (hat : v2.ownBlock = some gr ∨ gr = wx.heap.size) :
    FacN w (w6.setCell ⟨G, 1, none⟩ (.slice (some ⟨gr, 0, none⟩) (n + 1) cr)) G v1 (.slice (some ⟨gr, 0, none⟩) (n + 1) cr) vs (ds ++ [x]) ∧ (∀ b, v1.ownBlock = some b → (Value.slice (some ⟨gr, 0, none⟩) (n + 1) cr).ownBlock ≠ some b) := by
  subst hl
  obtain ⟨h1, h2, h3, h4, h5⟩ := h
  have hA := IOwn.append_ (news := [x]) h1 hown hgrow h5 h5.size
  have hK := grown_but_ hgrow
  have k2 := h2.but hK (fun k e1 e2 => hd k e1 e2)
  have k3 := h3.but hK (fun e => iown_ne h1 h3 (by decide) G e rfl)
  have k4 := h4.but hK (fun e => iown_ne h1 h4 (by decide) _ e rfl)
  have hp : KeptBut w6 (w6.setCell ⟨G, 1, none⟩ (.slice (some ⟨gr, 0, none⟩) (ds.length + 1) cr)) (fun i => i = G) := (KeptBut.refl w6 (fun i => i = G)).put (p := ⟨G, 1, none⟩) (fun _ => rfl) _
  refine ⟨⟨hA.1.but hp (fun k e1 e2 => iown_ne hA.1 k3 (by decide) k e1 e2), k2.but hp (fun k e1 e2 => iown_ne k2 k3 (by decide) k e1 e2), ?_, ?_, hA.2.setCell (p := ⟨G, 1, none⟩) (Nat.le_of_lt hG) _⟩, ?_⟩
  · have := k3.put 1 (.slice (some ⟨gr, 0, none⟩) (ds.length + 1) cr)
    exact this
  · have hne : w.heap.size ≠ G := by omega
    exact k4.far (p := ⟨G, 1, none⟩) hne _
  · intro b hb e
    have e1 : gr = b := by simpa [Value.ownBlock] using e
    subst e1
    rcases hat with hat | hat
    · exact hd _ hb hat
    · obtain ⟨c1, g1⟩ := owns_has h2 hb
      have := g1.lt
      omega
theorem facOk_mono {M N : Int} {F : Fac} (h : facOk M F = true) (hMN : M ≤ N) : facOk N F = true := by
  unfold facOk numsOk at h ⊢
  rw [Bool.and_eq_true, Bool.and_eq_true] at h ⊢
  refine ⟨h.1, List.all_eq_true.2 fun x hx => ?_, h.2.2⟩
  have := inB_iff.1 (List.all_eq_true.1 h.2.1 x hx)
  exact inB_iff.2 ⟨this.1, by omega⟩
end Go.Proofs.Ytaipdkfbkcknkaa

namespace Go.Proofs.Ytaipdkfbkcknkaa
set_option maxRecDepth 100000
open Go.RowKit
theorem Byt.more {w : World} {B B' : Nat} {A : Option Addr} {n : Nat} (h : Byt w B A n) (hB : B ≤ B') : Byt w B' A n := fun hn => by
  obtain ⟨g, off, e, hg, hc⟩ := h hn
  exact ⟨g, off, e, by omega, hc⟩
end Go.Proofs.Ytaipdkfbkcknkaa
namespace Go.Proofs.Ytaipdkfbkcknkaa
set_option maxRecDepth 100000
open Go.RowKit
theorem Chg.grown {a b c : World} {R : Nat} {row : Option Nat} (h : Chg a b R) (hg : b.grownBy c row) (hr : ∀ k, row = some k → a.heap.size ≤ k) : Chg a c R :=
  ⟨hg.os.trans h.os, hg.tape.trans h.tape, hg.output.trans h.output, Nat.le_trans h.size hg.size,
    fun i hi hne => (hg.block i (Nat.lt_of_lt_of_le hi h.size) (fun e => by have := hr i e.symm; omega)).trans (h.block i hi hne)⟩
theorem Rdr.grown {w w' : World} {B R : Nat} {A : Option Addr} {n c p : Nat} {row : Option Nat} (h : Rdr w B R A n c p) (hg : w.grownBy w' row) (hr : ∀ k, row = some k → B ≤ k ∧ k ≠ R) (hB : B ≤ w.heap.size) : Rdr w' B R A n c p :=
  ⟨(hg.block R h.lt (fun e => (hr R e.symm).2 rfl)).trans h.1, h.2.1, h.2.2.keep ((Below.refl B w).grown hg hB (fun k hk => (hr k hk).1))⟩
theorem Own.chg {w w' : World} {base R : Nat} {v : Value} {os : List St} (h : Own w base v os) (hc : Chg w w' R) (hR : R < base) : Own w' base v os := by
  refine World.ownsRow.kept h hc ?_
  cases hv : v.ownBlock with
  | none => exact .inl rfl
  | some k =>
    refine .inr fun e => ?_
    have h1 := (World.ownsRow.lt h k hv).1
    injection e with e
    omega
def St.put (s : St) : Nat → Int → St
  | 0, x => { s with k := x }
  | 1, x => { s with a := x }
  | 2, x => { s with b := x }
  | 3, x => { s with c := x }
  | 4, x => { s with u := x }
  | 5, x => { s with v := x }
  | _, x => { s with x := x }
end Go.Proofs.Ytaipdkfbkcknkaa
namespace Go.Proofs.Ytaipdkfbkcknkaa
set_option maxRecDepth 100000
open Go.RowKit
end Go.Proofs.Ytaipdkfbkcknkaa
