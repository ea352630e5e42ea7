/- Whither runs lead: the program's ledFrom. -/
import Derived.Test.YtcphclkaddhfmaaBb
import Derived.Deep.LoopGhost
import Derived.StillTailTactics
import Derived.IntWalk
namespace Go.Proofs.Ytcphclkaddhfmaa
set_option maxRecDepth 100000
set_option linter.unusedVariables false
open Go.RowKit

/-- The cells of sets of states. -/
def LedA (cs : Array Value) (m : Nat) (led : Nat → Int → Bool) : Prop := cs.size = (m + 1) * 81 ∧ ∀ i q : Nat, i ≤ m → q < 81 → cs[i * 81 + q]? = some (.bool (led i q))
def upL (led : Nat → Int → Bool) (p : Nat) (z : Int) : Nat → Int → Bool := fun i st => if i = p ∧ st = z then true else led i st
theorem LedA.upd {cs : Array Value} {m : Nat} {led : Nat → Int → Bool} (h : LedA cs m led) {p z : Nat} (hp : p ≤ m) (hz : z < 81) : LedA (cs.setIfInBounds (p * 81 + z) (.bool true)) m (upL led p z) := by
  refine ⟨by simpa using h.1, fun i q hi hq => ?_⟩
  rw [Array.getElem?_setIfInBounds]
  unfold upL
  by_cases he : p * 81 + z = i * 81 + q
  · have h1 : i = p := by omega
    subst h1
    have h2 : q = z := by omega
    subst h2
    rw [if_pos rfl, if_pos (by rw [h.1]; omega), if_pos ⟨rfl, rfl⟩]
  · rw [if_neg he, if_neg (by rintro ⟨rfl, e⟩; exact he (by omega))]
    exact h.2 i q hi hq
/-- Whither runs lead from a place and a state is whole. -/
def ClAt (os : List St) (led : Nat → Int → Bool) (i : Nat) (st : Int) : Prop := ∀ s, os[i]? = some s → led i st = true → ∀ r ∈ prt os.length s ⟨i, st, 1⟩, r.wt ≠ 0 → led r.pos r.st = true
theorem upL_mono {led : Nat → Int → Bool} {p i : Nat} {z st : Int} (h : led i st = true) : upL led p z i st = true := by
  unfold upL
  split
  · rfl
  · exact h
theorem upL_ne {led : Nat → Int → Bool} {p i : Nat} {z st : Int} (h : i ≠ p) : upL led p z i st = led i st := if_neg fun e => h e.1
theorem ClAt.upd {os : List St} {led : Nat → Int → Bool} {i p : Nat} {st z : Int} (h : ClAt os led i st) (hp : i ≠ p) : ClAt os (upL led p z) i st := fun s hs hl r hr hw => upL_mono (h s hs (by rwa [upL_ne hp] at hl) r hr hw)
def LedI (os : List St) (f : Int → Bool) (k : Nat) (ledk : Int → Bool) (q : Nat) (led : Nat → Int → Bool) : Prop :=
  (∀ st, led k st = ledk st) ∧ (∀ st, 0 ≤ st ∧ st ≤ 80 → led 0 st = f st) ∧ (∀ i, i < k → ∀ st, 0 ≤ st ∧ st ≤ 80 → ClAt os led i st) ∧ (∀ st : Int, 0 ≤ st ∧ st < (q : Int) → ClAt os led k st)
theorem LedI.upd {os : List St} {f : Int → Bool} {k p q : Nat} {ledk : Int → Bool} {led : Nat → Int → Bool} {z : Int} (h : LedI os f k ledk q led) (hp : k < p) : LedI os f k ledk q (upL led p z) :=
  ⟨fun st => by rw [upL_ne (by omega)]; exact h.1 st, fun st hs => by rw [upL_ne (by omega)]; exact h.2.1 st hs, fun i hi st hs => (h.2.2.1 i hi st hs).upd (by omega), fun st hs => (h.2.2.2 st hs).upd (by omega)⟩
/-- The first parts of a run are led. -/
def LedP (led : Nat → Int → Bool) (rs : List Rn) (d : Nat) : Prop := ∀ i r, i < d → rs[i]? = some r → r.wt ≠ 0 → led r.pos r.st = true
theorem LedP.upd {led : Nat → Int → Bool} {rs : List Rn} {d : Nat} {r : Rn} (h : LedP led rs d) (hr : rs[d]? = some r) : LedP (upL led r.pos r.st) rs (d + 1) := fun i r' hi hr' hw => by
  by_cases hid : i = d
  · subst hid
    obtain rfl : r = r' := Option.some.inj (hr.symm.trans hr')
    exact if_pos ⟨rfl, rfl⟩
  · exact upL_mono (h i r' (by omega) hr' hw)
theorem LedP.pass {led : Nat → Int → Bool} {rs : List Rn} {d : Nat} {r : Rn} (h : LedP led rs d) (hr : rs[d]? = some r) (h0 : r.wt = 0) : LedP led rs (d + 1) := fun i r' hi hr' hw => by
  by_cases hid : i = d
  · subst hid
    obtain rfl : r = r' := Option.some.inj (hr.symm.trans hr')
    exact absurd h0 hw
  · exact h i r' (by omega) hr' hw
theorem LedI.next {os : List St} {f : Int → Bool} {k q : Nat} {ledk : Int → Bool} {led : Nat → Int → Bool} {s : St} (h : LedI os f k ledk q led) (hs : os[k]? = some s) (hp : ledk q = true → LedP led (prt os.length s ⟨k, q, 1⟩) s.many) : LedI os f k ledk (q + 1) led :=
  ⟨h.1, h.2.1, h.2.2.1, fun st hst => by
    by_cases he : st = q
    · subst he
      intro s' hs' hl r hr hw
      obtain rfl : s = s' := Option.some.inj (hs.symm.trans hs')
      obtain ⟨i, hi⟩ := List.mem_iff_getElem?.1 hr
      have hl' := (List.getElem?_eq_some_iff.1 hi).1
      rw [prt_length] at hl'
      exact hp (by rw [← h.1]; exact hl) i r hl' hi hw
    · exact h.2.2.2 st (by omega)⟩
theorem LedI.on {os : List St} {f : Int → Bool} {k : Nat} {ledk : Int → Bool} {led : Nat → Int → Bool} (h : LedI os f k ledk 81 led) : LedI os f (k + 1) (led (k + 1)) 0 led :=
  ⟨fun _ => rfl, h.2.1, fun i hi st hs => by
    by_cases he : i = k
    · subst he
      exact h.2.2.2 st (by omega)
    · exact h.2.2.1 i (by omega) st hs, fun st hs => by omega⟩
theorem info_set3 : (Try.prog.info? 71).map (fun i => (i.zero, i.size, i.bytes)) = some (some (.agg (List.toArray (List.replicate 81 (.bool false)))), 81, 81) := by kernel_rfl
theorem made_atB {z : Array Value} {n i : Nat} (h : i < n) (hz : 0 < z.size) : (madeCells z n)[i]? = z[i % z.size]? := by
  have hi : i % z.size < z.size := Nat.mod_lt _ hz
  have hs : i < (madeCells z n).size := by rw [size_madeCells]; exact h
  rw [Array.getElem?_eq_getElem hs, Array.getElem?_eq_getElem hi]
  congr 1
  simp [madeCells]
  rw [getElem!_pos z _ hi]
theorem made_LedA {zc : Array Value} (hz : zc.size = 81) (hb : ∀ u ∈ zc, u = .bool false) (m : Nat) : LedA (madeCells zc ((m + 1) * 81)) m (fun _ _ => false) := ⟨size_madeCells _ _, fun i q hi hq => by
  have h1 : (i * 81 + q) % zc.size = q := by rw [hz]; omega
  have hlt : i * 81 + q < (m + 1) * 81 := by omega
  have h2 : (madeCells zc ((m + 1) * 81))[i * 81 + q]? = zc[(i * 81 + q) % zc.size]? := made_atB hlt (by omega)
  rw [h2, h1, Array.getElem?_eq_getElem (by omega)]
  congr 1
  exact hb _ (Array.getElem_mem _)⟩
theorem LedA.row0 {cs cs' fa : Array Value} {m : Nat} {led : Nat → Int → Bool} {f : Int → Bool} (h : LedA cs m led) (hf : SetA fa f) (hz : cs'.size = cs.size) (h1 : ∀ j v, fa.toList[j]? = some v → cs'[0 + j]? = some v) (h2 : ∀ i, (i < 0 ∨ 0 + fa.toList.length ≤ i) → cs'[i]? = cs[i]?) :
    LedA cs' m (fun i st => if i = 0 then f st else led i st) := by
  refine ⟨by rw [hz]; exact h.1, fun i q hi hq => ?_⟩
  by_cases h0 : i = 0
  · subst h0
    have := h1 q _ (by simpa using hf.2 q hq)
    show cs'[0 * 81 + q]? = some (.bool (if (0 : Nat) = 0 then f q else led 0 q))
    rw [if_pos rfl, ← this]
  · show cs'[i * 81 + q]? = some (.bool (if i = 0 then f q else led i q))
    rw [if_neg h0, h2 (i * 81 + q) (.inr (by simp [hf.1]; omega))]
    exact h.2 i q hi hq
theorem LedI.start {os : List St} {f : Int → Bool} {led : Nat → Int → Bool} : LedI os f 0 f 0 (fun i st => if i = 0 then f st else led i st) :=
  ⟨fun _ => rfl, fun _ _ => rfl, fun i hi => by omega, fun st hs => by omega⟩
/-- One of the sets of states. -/
theorem LedA.part {cs : Array Value} {m : Nat} {led : Nat → Int → Bool} (h : LedA cs m led) {k : Nat} (hk : k ≤ m) : SetA (cs.extract (k * 81) (k * 81 + 81)) (led k) := by
  have hz : k * 81 + 81 ≤ cs.size := by rw [h.1]; omega
  refine ⟨by simp; omega, fun q hq => ?_⟩
  rw [Array.getElem?_extract]
  rw [if_pos (by omega)]
  exact h.2 k q hk hq

theorem index_set {sn : Array Value} {f : Int → Bool} (h : SetA sn f) {q : Nat} (hq : q < 81) (w : World) : (Instr.index 71 (.agg sn) (.int .i64 q)).run Try.prog w = .ok (.bool (f q)) w := by
  have h1 := h.2 q hq
  have hu := Try.underlying71
  have hc : (0 : Int) ≤ (q : Int) ∧ (q : Int) < 81 := by omega
  simp [Instr.index, run_underlying hu, asIntOf, go_sem, part, h1, hc]
  intro h9
  omega

def Ledd (w : World) (m : Nat) (os : List St) (f : Int → Bool) (e : Ending) (w' : World) : Prop :=
  ∃ gl cs led, e = .returned (.slice (some ⟨gl, 0, none⟩) (m + 1) (m + 1)) ∧ w.heap.size ≤ gl ∧ Has w' gl 71 cs ∧ LedA cs m led ∧ (∀ st, 0 ≤ st ∧ st ≤ 80 → led 0 st = f st) ∧ (∀ i, i < m → Cl os led i) ∧ Below w.heap.size w w'

set_option maxHeartbeats 1000000 in
theorem ledFrom_any (A : Option Addr) (m c : Nat) (os : List St) (fa : Array Value) (f : Int → Bool) (w : World) (h : Lst w w.heap.size A m os) (hm : m ≤ 12) (hM : os.length = m) (hok : ∀ s ∈ os, s.ok = true) (hf : SetA fa f) :
    Calls Try.prog 86 #[.slice A m c, .agg fa] w (Ledd w m os f) := by
  have hH := Lib.hid h
  have hMo := Lib.hid hM
  have hOk := Lib.hid hok
  have hF := Lib.hid hf
  obtain ⟨i0, hi0, hz0, hz1', hz2'⟩ := info_parts info_set3
  have hzc : (List.toArray (List.replicate 81 (Value.bool false))).size = 81 := by simp
  have hzb : ∀ u ∈ (List.toArray (List.replicate 81 (Value.bool false))), u = .bool false := fun u hu => by simpa using hu
  have hsz : (Try.prog.info? 71).map (·.size) = some 81 := by rw [hi0]; simp [hz1']
  generalize List.toArray (List.replicate 81 (Value.bool false)) = zc at hz0 hzc hzb
  have hL0 := Lib.hid (made_LedA hzc hzb m)
  have hmk : ∀ wx : World, (Instr.makeSlice 100 (.int .i64 ((m : Int) + 1)) (.int .i64 ((m : Int) + 1))).run Try.prog wx = .ok (.slice (some ⟨wx.heap.size, 0, none⟩) (m + 1) (m + 1)) (wx.alloc (.cells (madeCells zc ((m + 1) * 81)) 71)) := by
    intro wx
    have hr := run_make (P := Try.prog) wx 100 71 i0 _ Try.underlying100 hi0 hz0 .i64 .i64 ((m : Int) + 1) ((m : Int) + 1) (by omega) (by omega) (by rw [hz2']; omega) (by omega)
    rw [hz1'] at hr
    rw [show ((m : Int) + 1).toNat = m + 1 by omega] at hr
    exact hr
  generalize madeCells zc ((m + 1) * 81) = cs0 at hmk hL0
  have hw1 : IntKind.i64.wrap ((m : Int) + 1) = (m : Int) + 1 := IntWalk.i64_in _ (by omega)
  have hSz := Lib.hid hsz
  clear h hM hok hf hsz hi0 hz0 hz1' hz2' hzc hzb
  clear zc
  have hW0 : Has ((w.alloc (.cells fa 71)).alloc (.cells cs0 71)) w.heap.size 71 fa := (Has.new w _ fa).alloc _
  have hW1 : Has ((w.alloc (.cells fa 71)).alloc (.cells cs0 71)) (w.heap.size + 1) 71 cs0 := by
    have := Has.new (w.alloc (.cells fa 71)) 71 cs0
    simpa using this
  have hWB : Below w.heap.size w ((w.alloc (.cells fa 71)).alloc (.cells cs0 71)) := ((Below.refl _ _).alloc (Nat.le_refl _) _).alloc (by simp) _
  have hR := Lib.hid (has_range (o := 0) (vs := fa.toList) hW0 (fun j v hv => by rw [Nat.zero_add]; simpa using hv))
  have hT := Lib.hid (has_there (o := 0) (n := fa.size) hW1 (by rw [hL0.out.1, hF.out.1]; omega))
  have hZ1 := Lib.hid (show (Try.prog.info? 71).map (·.size) = some fa.toList.length from by rw [hSz.out]; simp [hF.out.1])
  have hZ2 := Lib.hid (show (Try.prog.info? 71).map (·.size) = some fa.size from by rw [hSz.out, hF.out.1])
  have hFa := hF.out.1
  obtain ⟨cs1, hC1, hC2, hC3, hC4⟩ := has_setCells fa.toList 0 _ cs0 hW1 (by rw [hL0.out.1]; simp [hFa]; omega)
  have hL1 := Lib.hid (hL0.out.row0 hF.out hC2 hC3 hC4)
  have hC1' := Lib.hid hC1
  have hB1 := Lib.hid (below_setCells (show w.heap.size ≤ w.heap.size + 1 by omega) fa.toList 0 _ hWB)
  clear hW0 hW1 hWB hC1 hC2 hC3 hC4 hFa
  go_enter Try.func86, Try.ntmps86
  go_wp2_with (first
    | (refine wpList_load_mid rfl 71 (.tmp 3) rfl w.heap.size 0 (by rfl) fa.toList _ hR.out Try.underlying71 rfl hZ1.out ?_)
    | (refine wpList_store_mid rfl 71 (.tmp 17) (.tmp 16) rfl (w.heap.size + 1) 0 fa (by rfl) (by rfl) hT.out hZ2.out hF.out.one ?_))
  clear hR hT hZ1 hZ2 hmk
  obtain ⟨gl, hgl⟩ : ∃ gl, w.heap.size + 1 = gl := ⟨_, rfl⟩
  rw [hgl] at hC1' hB1 ⊢
  generalize ((w.alloc (.cells fa 71)).alloc (.cells cs0 71)).setCells gl 0 fa.toList = W1 at hC1' hB1 ⊢
  have hgl' := Lib.hid hgl
  clear hgl
  go_loopg [20] m (fun gn v wr => ∃ (k : Nat) (cs : Array Value) (led : Nat → Int → Bool), k ≤ m ∧ gn = m - k ∧ v = .int .i64 k ∧ Has wr gl 71 cs ∧ LedA cs m led ∧ LedI os f k (led k) 0 led ∧ Below w.heap.size w wr)
  case atStart => exact ⟨0, cs1, _, by omega, rfl, rfl, hC1'.out, hL1.out, LedI.start, hB1.out⟩
  case round =>
    obtain ⟨k, cs, led, hk, hgn, rfl, hCs, hLd, hLi, hB⟩ := hrel
    obtain ⟨gk1, rfl⟩ : ∃ x, x = gk := ⟨_, rfl⟩
    obtain ⟨w1, rfl⟩ : ∃ x, x = wr := ⟨_, rfl⟩
    have hgk : gk1 = m - k := hgn
    clear hgn
    by_cases hlt : k < m
    · have hsn := Lib.hid (hLd.part (k := k) (by omega))
      have hR := Lib.hid (has_range (o := k * 81) (vs := (cs.extract (k * 81) (k * 81 + 81)).toList) hCs (fun j v hv => by
        rw [Array.getElem?_toList, Array.getElem?_extract] at hv
        split at hv
        · exact hv
        · exact absurd hv (by simp)))
      have hZ := Lib.hid (show (Try.prog.info? 71).map (·.size) = some (cs.extract (k * 81) (k * 81 + 81)).toList.length from by rw [hSz.out, Array.length_toList, hsn.out.1])
      have hk0 : (0 : Int) ≤ (k : Int) := by omega
      have hk1 : (k : Int) < (m : Int) + 1 := by omega
      have hk2 : (k : Int) < (m : Int) := by omega
      have hk3 : k < m + 1 := by omega
      have hC' := Lib.hid hCs
      have hL' := Lib.hid hLd
      have hI' := Lib.hid hLi
      have hB' := Lib.hid hB
      obtain ⟨s, hs⟩ : ∃ s, os[k]? = some s := ⟨_, List.getElem?_eq_getElem (by rw [hMo.out]; exact hlt)⟩
      have hs' := Lib.hid hs
      have hso : s.ok = true := hOk.out s (List.mem_of_getElem? hs)
      clear hCs hLd hLi hB hs
      generalize cs.extract (k * 81) (k * 81 + 81) = sn at hsn hR hZ
      go_wp2_with (first
        | (refine wpList_load_mid rfl 71 (.tmp 25) rfl gl (k * 81) (by rfl) sn.toList _ hR.out Try.underlying71 rfl hZ.out ?_))
      clear hR hZ
      obtain ⟨lk, hlk⟩ : ∃ lk, lk = led k := ⟨_, rfl⟩
      rw [← hlk] at hsn hI'
      clear hlk
      have hsn1 := hsn.out.1
      go_loopg [27] 81 (fun gn v wr => ∃ (q : Nat) (cs : Array Value) (led : Nat → Int → Bool), q ≤ 81 ∧ gn = 81 - q ∧ v = .int .i64 q ∧ Has wr gl 71 cs ∧ LedA cs m led ∧ LedI os f k lk q led ∧ Below w.heap.size w wr)
      case atStart => exact ⟨0, cs, led, by omega, rfl, rfl, hC'.out, hL'.out, hI'.out, hB'.out⟩
      case round =>
        clear hC' hL' hI' hB'
        obtain ⟨q, cs2, led2, hq, hgn, rfl, hCs, hLd, hLi, hB⟩ := hrel
        obtain ⟨gk2, rfl⟩ : ∃ x, x = gk := ⟨_, rfl⟩
        obtain ⟨w2, rfl⟩ : ∃ x, x = wr := ⟨_, rfl⟩
        have hgk2 : gk2 = 81 - q := hgn
        have hC2 := Lib.hid hCs
        have hL2 := Lib.hid hLd
        have hI2 := Lib.hid hLi
        have hB2 := Lib.hid hB
        clear hgn hCs hLd hLi hB
        by_cases hq81 : q < 81
        · have hsq := fun wx => index_set hsn.out hq81 wx
          have hq0 : (0 : Int) ≤ (q : Int) := by omega
          have hq1 : (q : Int) < 81 := by omega
          cases hlq : lk q
          · rw [hlq] at hsq
            have hI3 := Lib.hid (hI2.out.next hs'.out (fun e => by rw [hlq] at e; cases e))
            go_wp2_with fail
            go_roundg (81 - (q + 1))
            case measure => omega
            case rel => exact ⟨q + 1, cs2, led2, by omega, rfl, by go_num, hC2.out, hL2.out, hI3.out, hB2.out⟩
          · rw [hlq] at hsq
            obtain ⟨n, hne⟩ : ∃ n, s.many = n := ⟨_, rfl⟩
            have hn1 := many_pos s
            have hn3 := many_le s
            rw [hne] at hn1 hn3
            have hln : (prt m s ⟨k, q, 1⟩).length = n := by rw [prt_length, hne]
            have hNe := Lib.hid hne
            have hqs : (0 : Int) ≤ (q : Int) ∧ (q : Int) ≤ 80 := by omega
            have cP0 := Lib.hid (fun wx (hb : Below w.heap.size w wx) => show Calls Try.prog 107 #[.slice A m c, .agg #[.int .i64 k, .int .i64 q, .int .i64 1]] wx (fun e w' => ∃ b cs, e = .returned (.slice (some ⟨b, 0, none⟩) n n) ∧ wx.heap.size ≤ b ∧ Has w' b 79 cs ∧ PrtA cs (prt m s ⟨k, q, 1⟩) n ∧ Below wx.heap.size wx w') from
              (partsOf_any A m c os s ⟨k, q, 1⟩ wx ((hH.out.below hb).more hb.size) hm hMo.out hlt hs'.out hso hqs ⟨by show (0 : Int) ≤ 1; decide, by show (1 : Int) ≤ 1000000000000000000; decide⟩).mono fun e w' h9 => by
                unfold Prtd at h9
                rwa [hln] at h9)
            clear hne hln
            go_wp2_with (first
              | (go_at_call 108; refine (runAt_any k q _).mono ?_; rintro e w3 ⟨rfl, hb3⟩; have hB3 := hB2.out.trans (hb3.mono hB2.out.size); have hC3 := hC2.out.kept hb3)
              | (go_at_call 107; refine (cP0.out _ hB3).mono ?_; rintro e w4 ⟨P, csP, rfl, hPge, hHP, hPr, hb4⟩))
            have hC4 := Lib.hid (hC3.kept hb4)
            have hB4 := Lib.hid (hB3.trans (hb4.mono hB3.size))
            have hglP : gl ≠ P := by have := hC3.lt; omega
            have hPgl : P ≠ gl := fun e => hglP e.symm
            have hH4 := Lib.hid hHP
            have hP4 := Lib.hid hPr
            clear hb3 hB3 hC3 hPge hHP hPr hb4 hC2 hB2 hsq cP0
            go_loopg [39] n (fun gn v wr => ∃ (d : Nat) (cs : Array Value) (led : Nat → Int → Bool), d ≤ n ∧ gn = n - d ∧ v = .int .i64 d ∧ Has wr gl 71 cs ∧ LedA cs m led ∧ LedI os f k lk q led ∧ LedP led (prt m s ⟨k, q, 1⟩) d ∧ Has wr P 79 csP ∧ Below w.heap.size w wr)
            case atStart => exact ⟨0, cs2, led2, by omega, rfl, rfl, hC4.out, hL2.out, hI2.out, fun i r hi => by omega, hH4.out, hB4.out⟩
            case round =>
              clear hC4 hL2 hI2 hH4 hB4
              obtain ⟨d, cs3, led3, hd, hgn, rfl, hCs, hLd, hLi, hLp, hPd, hB⟩ := hrel
              obtain ⟨gk3, rfl⟩ : ∃ x, x = gk := ⟨_, rfl⟩
              obtain ⟨w5, rfl⟩ : ∃ x, x = wr := ⟨_, rfl⟩
              have hgk3 : gk3 = n - d := hgn
              have hC3 := Lib.hid hCs
              have hL3 := Lib.hid hLd
              have hI3 := Lib.hid hLi
              have hQ3 := Lib.hid hLp
              have hB3 := Lib.hid hB
              have hP3 := Lib.hid hPd
              clear hgn hLd hLi hLp hB
              by_cases hdn : d < n
              · have hp := prt_at (m := m) (s := s) (r := ⟨k, q, 1⟩) (show d < s.many by rw [hNe.out]; exact hdn)
                obtain ⟨c0, c1, c2⟩ := hP4.out.2 d _ hdn hp
                have hpm : (clp m (Rn.step s ⟨k, q, 1⟩ d)).pos ≤ m := Nat.min_le_right _ _
                have hpk : k < (clp m (Rn.step s ⟨k, q, 1⟩ d)).pos := by
                  show k < min (k + 1 + s.jump q) m
                  omega
                have hps : 0 ≤ (clp m (Rn.step s ⟨k, q, 1⟩ d)).st ∧ (clp m (Rn.step s ⟨k, q, 1⟩ d)).st ≤ 80 := next_bd hso hqs (by omega)
                have hpw : 0 ≤ (clp m (Rn.step s ⟨k, q, 1⟩ d)).wt := by
                  have := (fac_bd hso (s.next q d)).1
                  show 0 ≤ 1 * s.fac (s.next q d)
                  omega
                generalize clp m (Rn.step s ⟨k, q, 1⟩ d) = r at hp c0 c1 c2 hpm hpk hps hpw
                obtain ⟨z, hz⟩ : ∃ z : Nat, r.st = (z : Int) := ⟨r.st.toNat, by omega⟩
                rw [hz] at c1
                have hz81 : z < 81 := by omega
                have hz0 : (0 : Int) ≤ (z : Int) := by omega
                have hz1 : (z : Int) < 81 := by omega
                have hzz := Lib.hid hz
                have hp' := Lib.hid hp
                have e0 := (hPd.cell _).trans c0
                have e1 := (hPd.cell _).trans c1
                have e2 := (hPd.cell _).trans c2
                have hd0 : (0 : Int) ≤ (d : Int) := by omega
                have hd1 : (d : Int) < (n : Int) := by omega
                have hr0 : (0 : Int) ≤ (r.pos : Int) := by omega
                have hr1 : (r.pos : Int) < (m : Int) + 1 := by omega
                have hr2 : r.pos < m + 1 := by omega
                clear c0 c1 c2 hp hz hps
                by_cases hw0 : r.wt = 0
                · have hwn : ¬ (0 < r.wt) := by omega
                  have hQn := Lib.hid (hQ3.out.pass hp'.out hw0)
                  clear hw0
                  have hCn := Lib.hid (hC3.out.alloc (.cells #[.int .i64 r.pos, .int .i64 z, .int .i64 r.wt] 79))
                  have hPn := Lib.hid (hP3.out.alloc (.cells #[.int .i64 r.pos, .int .i64 z, .int .i64 r.wt] 79))
                  have hBn := Lib.hid (hB3.out.alloc hB3.out.size (.cells #[.int .i64 r.pos, .int .i64 z, .int .i64 r.wt] 79))
                  clear hCs hPd
                  go_wp2_with fail
                  go_roundg (n - (d + 1))
                  case measure => omega
                  case rel => exact ⟨d + 1, cs3, led3, by omega, rfl, by go_num, hCn.out, hL3.out, hI3.out, hQn.out, hPn.out, hBn.out⟩
                · have hwn : 0 < r.wt := by omega
                  have hQn := Lib.hid (hQ3.out.upd hp'.out)
                  have hIn := Lib.hid (hI3.out.upd (z := r.st) hpk)
                  have hLn := Lib.hid (hL3.out.upd (p := r.pos) (z := z) hpm hz81)
                  rw [hzz.out] at hQn hIn
                  have hCa := Lib.hid (hC3.out.alloc (.cells #[.int .i64 r.pos, .int .i64 z, .int .i64 r.wt] 79))
                  have hPa := Lib.hid (hP3.out.alloc (.cells #[.int .i64 r.pos, .int .i64 z, .int .i64 r.wt] 79))
                  have hBa := Lib.hid (hB3.out.alloc hB3.out.size (.cells #[.int .i64 r.pos, .int .i64 z, .int .i64 r.wt] 79))
                  have hXa := Lib.hid (Has.new w5 79 #[.int .i64 r.pos, .int .i64 z, .int .i64 r.wt])
                  clear hCs hPd
                  go_wp2_with fail
                  clear e0 e1 e2
                  generalize w5.heap.size = X at hXa ⊢
                  generalize w5.alloc (.cells #[.int .i64 r.pos, .int .i64 z, .int .i64 r.wt] 79) = W5 at hCa hPa hBa hXa ⊢
                  have hxc := hXa.out.cell
                  have hfz := hCa.out.frozen
                  obtain ⟨u, hu⟩ := hCa.out.size_cell (x := r.pos * 81 + z) (by rw [hL3.out.1]; omega)
                  have hCn := Lib.hid (hCa.out.put (r.pos * 81 + z) (.bool true))
                  have hPn := Lib.hid (hPa.out.far (p := ⟨gl, r.pos * 81 + z, none⟩) hPgl (.bool true))
                  have hBn := Lib.hid (hBa.out.setCell (p := ⟨gl, r.pos * 81 + z, none⟩) (by show w.heap.size ≤ gl; have := hgl'.out; omega) (.bool true))
                  go_still_tail 7, (by kernel_rfl)
                  change wpList _ _ _ _ _ W5.drew
                  go_wp2_with fail
                  go_roundg (n - (d + 1))
                  case measure => omega
                  case rel => exact ⟨d + 1, _, _, by omega, rfl, by go_num, hCn.out, hLn.out, hIn.out, hQn.out, hPn.out, hBn.out.drew⟩
              · obtain rfl : n = d := by omega
                have hIn := Lib.hid (hI3.out.next hs'.out (fun _ => by rw [hNe.out, hMo.out]; exact hQ3.out))
                clear hCs hPd
                go_wp2_with fail
                go_roundg (81 - (q + 1))
                case measure => omega
                case rel => exact ⟨q + 1, cs3, led3, by omega, rfl, by go_num, hC3.out, hL3.out, hIn.out, hB3.out⟩
        · obtain rfl : q = 81 := by omega
          have hI3 := Lib.hid hI2.out.on
          go_wp2_with fail
          go_roundg (m - (k + 1))
          case measure => omega
          case rel => exact ⟨k + 1, cs2, led2, by omega, rfl, by go_num, hC2.out, hL2.out, hI3.out, hB2.out⟩
    · obtain rfl : k = m := by omega
      have hC' := Lib.hid hCs
      have hL' := Lib.hid hLd
      have hI' := Lib.hid hLi
      have hB' := Lib.hid hB
      clear hCs hLd hLi hB
      go_wp2_with fail
      go_ret
      exact ⟨gl, cs, led, rfl, by have := hgl'.out; omega, hC'.out, hL'.out, hI'.out.2.1, fun i hi s hs st hst => hI'.out.2.2.1 i hi st hst s hs, hB'.out⟩
end Go.Proofs.Ytcphclkaddhfmaa
