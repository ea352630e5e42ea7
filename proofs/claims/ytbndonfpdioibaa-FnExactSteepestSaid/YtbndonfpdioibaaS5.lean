/- Slopes of one statement, of the runs at it: the program's slopesBehind. -/
import Derived.Test.YtbndonfpdioibaaS4
import Derived.Test.YtbndonfpdioibaaBn
namespace Go.Proofs.Ytbndonfpdioibaa
set_option maxRecDepth 100000
set_option linter.unusedVariables false
open Go.RowKit

/-- What one value of a statement adds to the slope of one of its weights; x is the state behind it. -/
def uAt (G : Int → Int) (s : St) (c x : Int) : Int := if s.uses x = c then G x else 0
/-- What its first d values add. -/
def uSum (G : Int → Int) (s : St) (c sz : Int) : Nat → Int
  | 0 => 0
  | d + 1 => uSum G s c sz d + uAt G s c (s.next sz d)
theorem uAt_nn {G : Int → Int} (hG : ∀ x, 0 ≤ x ∧ x ≤ 80 → 0 ≤ G x) (s : St) (c : Int) {x : Int} (hx : 0 ≤ x ∧ x ≤ 80) : 0 ≤ uAt G s c x := by
  unfold uAt
  split
  · exact hG x hx
  · exact Int.le_refl _
theorem uSum_le {G : Int → Int} (hG : ∀ x, 0 ≤ x ∧ x ≤ 80 → 0 ≤ G x) {s : St} (hok : s.ok = true) (c : Int) {sz : Int} (hs : 0 ≤ sz ∧ sz ≤ 80) {d : Nat} : ∀ (n : Nat), n ≤ 3 → d ≤ n → 0 ≤ uSum G s c sz d ∧ uSum G s c sz d ≤ uSum G s c sz n
  | 0, hn, h => by
    obtain rfl : d = 0 := by omega
    exact ⟨Int.le_refl _, Int.le_refl _⟩
  | n + 1, hn, h => by
    have e := uAt_nn hG s c (next_bd hok hs (x := (n : Int)) (by omega))
    by_cases hd : d = n + 1
    · subst hd
      have := (uSum_le hG hok c hs (d := n) n (by omega) (Nat.le_refl _)).1
      refine ⟨?_, Int.le_refl _⟩
      rw [uSum]
      omega
    · have := uSum_le hG hok c hs n (by omega) (show d ≤ n by omega)
      rw [uSum]
      omega
/-- The slopes of a statement by the runs at it. -/
def slB (G : Int → Int) (s : St) (rs : Fr) (c : Int) : Int := sumV (fun sz => uSum G s c sz s.many) rs
theorem slB_bd {G : Int → Int} (hG : ∀ x, 0 ≤ x ∧ x ≤ 80 → 0 ≤ G x) {s : St} (hok : s.ok = true) {rs : Fr} (hr : ∀ p ∈ rs, (0 ≤ p.1 ∧ p.1 ≤ 80) ∧ 0 ≤ p.2) (c : Int) {k : Nat} {sz wt : Int} (hk : rs[k]? = some (sz, wt)) {d : Nat} (hd : d < s.many) :
    0 ≤ slB G s (rs.take k) c + wt * uSum G s c sz d ∧ 0 ≤ wt * uAt G s c (s.next sz d) ∧ slB G s (rs.take k) c + wt * uSum G s c sz (d + 1) = slB G s (rs.take k) c + wt * uSum G s c sz d + wt * uAt G s c (s.next sz d) ∧ slB G s (rs.take k) c + wt * uSum G s c sz (d + 1) ≤ slB G s rs c := by
  have hp := hr _ (List.mem_of_getElem? hk)
  have hst : 0 ≤ sz ∧ sz ≤ 80 := hp.1
  have hwt : 0 ≤ wt := hp.2
  have hmy := many_le s
  have nn : ∀ qs : Fr, (∀ p ∈ qs, p ∈ rs) → 0 ≤ sumV (fun sz => uSum G s c sz s.many) qs := fun qs hq => sumV_nonneg fun p hp => ⟨(hr p (hq p hp)).2, (uSum_le hG hok c (hr p (hq p hp)).1 (d := s.many) s.many hmy (Nat.le_refl _)).1⟩
  have h1 : 0 ≤ slB G s (rs.take k) c := nn _ fun p hp => List.mem_of_mem_take hp
  have h2 : slB G s rs c = slB G s (rs.take (k + 1)) c + sumV (fun sz => uSum G s c sz s.many) (rs.drop (k + 1)) := by
    unfold slB
    rw [← sumV_append, List.take_append_drop]
  have h3 : slB G s (rs.take (k + 1)) c = slB G s (rs.take k) c + wt * uSum G s c sz s.many := sumV_take hk
  have h4 := nn (rs.drop (k + 1)) fun p hp => List.mem_of_mem_drop hp
  have h5 := uSum_le hG hok c hst (d := d) s.many hmy (by omega)
  have h6 := uSum_le hG hok c hst (d := d + 1) s.many hmy (by omega)
  have e0 := Int.mul_nonneg hwt h5.1
  have e1 := Int.mul_nonneg hwt (uAt_nn hG s c (next_bd hok hst (x := (d : Int)) (by omega)))
  have e2 := Int.mul_le_mul_of_nonneg_left h6.2 hwt
  refine ⟨by omega, e1, ?_, by omega⟩
  rw [uSum, Int.mul_add]
  omega
/-- Three numbers in cells. -/
def Arr3 (cs : Array Value) (X : Nat → Int) : Prop := cs.size = 3 ∧ ∀ q : Nat, q < 3 → cs[q]? = some (.int .i64 (X q))
theorem Arr3.put {cs : Array Value} {X Y : Nat → Int} (h : Arr3 cs X) {u : Nat} {y : Int} (hu : u < 3) (hy : Y u = y) (hn : ∀ q, q < 3 → q ≠ u → Y q = X q) : Arr3 (cs.setIfInBounds u (.int .i64 y)) Y := by
  refine ⟨by simpa using h.1, fun q hq => ?_⟩
  rw [Array.getElem?_setIfInBounds]
  by_cases hqu : u = q
  · subst hqu
    rw [if_pos rfl, if_pos (by rw [h.1]; exact hu), hy]
  · rw [if_neg hqu, hn q hq (Ne.symm hqu)]
    exact h.2 q hq
theorem Arr3.congr {cs : Array Value} {X Y : Nat → Int} (h : Arr3 cs X) (hn : ∀ q, q < 3 → X q = Y q) : Arr3 cs Y := ⟨h.1, fun q hq => by rw [← hn q hq]; exact h.2 q hq⟩
theorem Arr3.eq {cs : Array Value} {X : Nat → Int} (h : Arr3 cs X) : cs = #[.int .i64 (X 0), .int .i64 (X 1), .int .i64 (X 2)] := by
  apply Array.ext
  · rw [h.1]; rfl
  · intro i h1 h2
    have h3 := h.2 i (by rw [h.1] at h1; exact h1)
    rw [Array.getElem?_eq_getElem h1] at h3
    injection h3 with h3
    rw [h3]
    have : i < 3 := h2
    obtain rfl | rfl | rfl : i = 0 ∨ i = 1 ∨ i = 2 := by omega
    all_goals rfl

set_option maxHeartbeats 4000000 in
theorem slopesBehind_any (base base2 m c i n cr gr c2 : Nat) (A Ar : Option Addr) (os : List St) (s : St) (rs : Fr) (G : Int → Int) (csG : Array Value) (w : World) (h : Lst w base A m os) (hb : base ≤ w.heap.size) (hm : m ≤ 12) (hM : os.length = m) (hi : i < m) (hs : os[i]? = some s) (hok : s.ok = true) (hw : s.hasW = true)
    (hR : w.ownsRow base2 101 3 (.slice Ar n cr) n (rnflat (rns i rs))) (hn : rs.length = n) (hF : FrOk rs) (hcap : ∀ p ∈ rs, p.2 ≤ 1000000000000000000) (hG : Has w gr 3 csG) (hGa : RowA csG G) (hG0 : ∀ x, 0 ≤ x ∧ x ≤ 80 → 0 ≤ G x) (hT : ∀ c : Int, 0 ≤ c ∧ c ≤ 2 → slB G s rs c ≤ 1000000000000000000) :
    Calls Try.prog 132 #[.slice A m c, .slice Ar n cr, .slice (some ⟨gr, 0, none⟩) 81 c2] w fun e w' => e = .returned (.agg #[.int .i64 (slB G s rs 0), .int .i64 (slB G s rs 1), .int .i64 (slB G s rs 2)]) ∧ Below w.heap.size w w' := by
  have hFl := hF.len
  rw [hn] at hFl
  have hn9 : n ≤ 9223372036854775807 := by omega
  obtain ⟨k9, hne⟩ : ∃ k9, s.many = k9 := ⟨_, rfl⟩
  have hk1 := many_pos s
  have hk3 := many_le s
  rw [hne] at hk1 hk3
  have hH := Lib.hid h
  have hbh := Lib.hid hb
  have hMo := Lib.hid hM
  have hS := Lib.hid hs
  have hRw := Lib.hid hR
  have hN := Lib.hid hn
  have hFo := Lib.hid hF
  have hCap := Lib.hid hcap
  have hGr := Lib.hid (And.intro hG hGa)
  have hG0h := Lib.hid hG0
  have hTt := Lib.hid hT
  have hNe := Lib.hid hne
  have hOkh := Lib.hid hok
  have hWh := Lib.hid hw
  have hpos := Lib.hid (fun p (hp : p ∈ rs) => (show (0 ≤ p.1 ∧ p.1 ≤ 80) ∧ 0 ≤ p.2 from ⟨(hF.1 p hp).1, Int.le_of_lt (hF.1 p hp).2⟩))
  have cP := Lib.hid (fun (wx : World) (sz wt : Int) (hb1 : Below w.heap.size w wx) (hst : 0 ≤ sz ∧ sz ≤ 80) (hwt : 0 ≤ wt ∧ wt ≤ 1000000000000000000) => show Calls Try.prog 159 #[.slice A m c, .agg #[.int .i64 i, .int .i64 sz, .int .i64 wt]] wx (fun e w' => ∃ b cs, e = .returned (.slice (some ⟨b, 0, none⟩) k9 k9) ∧ wx.heap.size ≤ b ∧ Has w' b 101 cs ∧ PrtA cs (prt m s ⟨i, sz, wt⟩) k9 ∧ Below wx.heap.size wx w') from
    (partsOf_any A m c os s ⟨i, sz, wt⟩ wx ((h.below (hb1.mono hb)).more (Nat.le_trans hb hb1.size)) hm hM hi hs hok hst hwt).mono fun e w' h9 => by
      unfold Prtd at h9
      rwa [prt_length, hne] at h9)
  have cU := Lib.hid (fun (wx : World) (x : Int) (hx : 0 ≤ x ∧ x ≤ 80) => usedBehind_any s x wx hok hw hx)
  have hAt := Lib.hid (fun (wx : World) (hb1 : Below w.heap.size w wx) => (h.below (hb1.mono hb)).at_ hi)
  obtain ⟨gs, off, s', rfl, hgs, hs', _⟩ := h.at_ hi
  obtain rfl : s' = s := Option.some.inj (hs'.symm.trans hs)
  have hAt2 := Lib.hid (show ∀ (wx : World), Below w.heap.size w wx → StAt wx gs (off + i * 7) s' from fun wx hb1 => by
    obtain ⟨gs2, off2, s2, e2, _, hs2, hat2⟩ := hAt.out wx hb1
    injection e2 with e2
    injection e2 with e2 e3 _
    subst e2 e3
    obtain rfl : s2 = s' := Option.some.inj (hs2.symm.trans hs)
    exact hat2)
  have hi0 : (0 : Int) ≤ (i : Int) := by omega
  have hi1 : (i : Int) < (m : Int) := by omega
  have hC6 := Lib.hid (Has.new w 76 #[.int .i64 0, .int .i64 0, .int .i64 0])
  have hC7 := Lib.hid (Has.new (w.alloc (.cells #[.int .i64 0, .int .i64 0, .int .i64 0] 76)) 76 #[.int .i64 0, .int .i64 0, .int .i64 0])
  have hB7 := Lib.hid (((Below.refl w.heap.size w).alloc (Nat.le_refl _) (.cells #[.int .i64 0, .int .i64 0, .int .i64 0] 76)).alloc (by simp) (.cells #[.int .i64 0, .int .i64 0, .int .i64 0] 76))
  clear h hb hM hs hR hn hF hcap hG hGa hG0 hT hs' hne hok hw hAt
  go_enter Try.func132, Try.ntmps132
  go_wp2_with fail
  have e6 : (w.alloc (.cells #[.int .i64 0, .int .i64 0, .int .i64 0] 76)).heap.size = w.heap.size + 1 := by simp
  have hC6a := Lib.hid (hC6.out.alloc (.cells #[.int .i64 0, .int .i64 0, .int .i64 0] 76))
  rw [e6] at hC7
  clear hC6 e6
  generalize (w.alloc (.cells #[.int .i64 0, .int .i64 0, .int .i64 0] 76)).alloc (.cells #[.int .i64 0, .int .i64 0, .int .i64 0] 76) = W7 at hC6a hC7 hB7 ⊢
  obtain ⟨C6, hC⟩ : ∃ C6, w.heap.size = C6 := ⟨_, rfl⟩
  have hCc := Lib.hid hC
  rw [hC] at hC6a hC7 ⊢
  clear hC
  go_loopg [14] n (fun gn v wr => ∃ (k : Nat) (cs : Array Value), k ≤ n ∧ gn = n - k ∧ v = .int .i64 k ∧ Has wr C6 76 #[.int .i64 0, .int .i64 0, .int .i64 0] ∧ Has wr (C6 + 1) 76 cs ∧ Arr3 cs (fun q => slB G s' (rs.take k) q) ∧ Below w.heap.size w wr)
  case atStart =>
    refine ⟨0, _, Nat.zero_le _, rfl, rfl, hC6a.out, hC7.out, ⟨rfl, fun q hq => ?_⟩, hB7.out⟩
    obtain rfl | rfl | rfl : q = 0 ∨ q = 1 ∨ q = 2 := by omega
    all_goals rfl
  case round =>
    clear hC6a hC7 hB7
    obtain ⟨k, cs, hk, hgn, rfl, h6, h7, ha, hb⟩ := hrel
    have hgk : gk = n - k := hgn
    clear hgn
    by_cases hlt : k < n
    · obtain ⟨p, hp⟩ : ∃ p, rs[k]? = some p := ⟨_, List.getElem?_eq_getElem (by rw [hN.out]; exact hlt)⟩
      obtain ⟨sz, wt⟩ := p
      have hpk := hpos.out _ (List.mem_of_getElem? hp)
      have hst : 0 ≤ sz ∧ sz ≤ 80 := hpk.1
      have hwt : 0 ≤ wt := hpk.2
      have hwc : wt ≤ 1000000000000000000 := hCap.out _ (List.mem_of_getElem? hp)
      obtain ⟨b, curb, rfl, _, hhb, _, _, _, hbc⟩ := owns_open (owns_but hRw.out (KeptBut.of_below hb (fun _ => False)) (fun _ _ h => h)) (by omega)
      have hrp := rns_at (i := i) hp
      have e0 : wr.cell? ⟨b, k * 3, none⟩ = some (.int .i64 i) := (hbc _ (by omega)).trans (rnflat_at (q := 0) hrp rfl)
      have e1 : wr.cell? ⟨b, k * 3 + 1, none⟩ = some (.int .i64 sz) := (hbc _ (by omega)).trans (rnflat_at (q := 1) hrp rfl)
      have e2 : wr.cell? ⟨b, k * 3 + 2, none⟩ = some (.int .i64 wt) := (hbc _ (by omega)).trans (rnflat_at (q := 2) hrp rfl)
      have hN9 := Lib.hid (Has.new wr 101 #[.int .i64 i, .int .i64 sz, .int .i64 wt])
      have h6a := Lib.hid (h6.alloc (.cells #[.int .i64 i, .int .i64 sz, .int .i64 wt] 101))
      have h7a := Lib.hid (h7.alloc (.cells #[.int .i64 i, .int .i64 sz, .int .i64 wt] 101))
      have hb9 := Lib.hid (hb.alloc hb.size (.cells #[.int .i64 i, .int .i64 sz, .int .i64 wt] 101))
      have haH := Lib.hid ha
      have hP := Lib.hid hp
      have hWr := Lib.hid (Nat.lt_of_lt_of_le h7.lt (Nat.le_refl wr.heap.size))
      have hk0 : (0 : Int) ≤ (k : Int) := by omega
      have hk1' : (k : Int) < (n : Int) := by omega
      clear h6 h7 ha hb hhb hbc hrp hpk hp
      go_wp2_with fail
      clear e0 e1 e2
      generalize wr.alloc (.cells #[.int .i64 i, .int .i64 sz, .int .i64 wt] 101) = W9 at hN9 h6a h7a hb9 ⊢
      generalize wr.heap.size = N at hN9 hWr ⊢
      have e9 := hN9.out.cell
      have cPz := Lib.hid (cP.out W9 sz wt hb9.out hst ⟨hwt, hwc⟩)
      go_wp2_with fail
      refine (cPz.out).mono ?_
      rintro e w3 ⟨P, csP, rfl, hPge, hHP, hPr, hb3⟩
      have hN3 := Lib.hid (hN9.out.kept hb3)
      have h63 := Lib.hid (h6a.out.kept hb3)
      have h73 := Lib.hid (h7a.out.kept hb3)
      have hb33 := Lib.hid (hb9.out.trans (hb3.mono hb9.out.size))
      have hH3 := Lib.hid hHP
      have hP3 := Lib.hid hPr
      have hN9l := hN9.out.lt
      have hPN := Lib.hid (show P ≠ N ∧ P ≠ C6 + 1 from ⟨by omega, by have := hWr.out; omega⟩)
      clear hPge hHP hPr hb3 e9 hN9 h6a h7a hb9 cPz hN9l
      go_wp2_with fail
      obtain ⟨go, rfl⟩ : ∃ go : Nat, go = gk := ⟨_, rfl⟩
      go_loopg [22] k9 (fun gn v wz => ∃ (d : Nat) (cs : Array Value), d ≤ k9 ∧ gn = k9 - d ∧ v = .int .i64 d ∧ Has wz N 101 #[.int .i64 i, .int .i64 sz, .int .i64 wt] ∧ Has wz P 101 csP ∧ Has wz C6 76 #[.int .i64 0, .int .i64 0, .int .i64 0] ∧ Has wz (C6 + 1) 76 cs ∧ Arr3 cs (fun q => slB G s' (rs.take k) q + wt * uSum G s' q sz d) ∧ Below w.heap.size w wz)
      case atStart => exact ⟨0, cs, Nat.zero_le _, rfl, rfl, hN3.out, hH3.out, h63.out, h73.out, haH.out.congr (fun q hq => by show _ = _ + wt * 0; rw [Int.mul_zero, Int.add_zero]), hb33.out⟩
      case round =>
        clear hN3 hH3 h63 h73 hb33 haH
        obtain ⟨wq, rfl⟩ : ∃ x : World, x = wr := ⟨_, rfl⟩
        obtain ⟨d, cs, hd, hgn, rfl, hN3, hH3, h63, h73, ha, hb⟩ := hrel
        have hgk2 : gk = k9 - d := hgn
        clear hgn
        by_cases hdk : d < k9
        · have hdm : d < s'.many := by rw [hNe.out]; exact hdk
          have hpr := prt_at (m := m) (s := s') (r := ⟨i, sz, wt⟩) hdm
          obtain ⟨c0, c1, c2⟩ := hP3.out.2 d _ hdk hpr
          have hxb : 0 ≤ s'.next sz d ∧ s'.next sz d ≤ 80 := next_bd hOkh.out hst (by omega)
          have hub := uses_rng hOkh.out hWh.out hxb
          obtain ⟨x, hx⟩ : ∃ x : Nat, s'.next sz d = (x : Int) := ⟨_, (Int.toNat_of_nonneg hxb.1).symm⟩
          obtain ⟨u, hu⟩ : ∃ u : Nat, s'.uses (s'.next sz d) = (u : Int) := ⟨_, (Int.toNat_of_nonneg hub.1).symm⟩
          have hu3 : u < 3 := by omega
          have hx81 : x < 81 := by omega
          obtain ⟨hb1, hb2, hb3, hb4⟩ := slB_bd hG0h.out hOkh.out hpos.out (u : Int) hP.out hdm
          have hb5 := hTt.out (u : Int) (by omega)
          have hua : uAt G s' (u : Int) (s'.next sz d) = G x := by unfold uAt; rw [if_pos hu, hx]
          rw [hua] at hb2 hb3
          have hY := Lib.hid (show ∀ q : Nat, q < 3 → q ≠ u → slB G s' (rs.take k) q + wt * uSum G s' q sz (d + 1) = slB G s' (rs.take k) q + wt * uSum G s' q sz d from fun q hq hne => by
            have e : uAt G s' (q : Int) (s'.next sz d) = 0 := by unfold uAt; rw [if_neg (by omega)]
            rw [uSum, e, Int.add_zero])
          have hYu := Lib.hid hb3
          have cUx := Lib.hid (fun wx => cU.out wx (x : Int) (by omega))
          rw [hx] at hu
          rw [hu] at cUx
          have hx9 : (clp m (Rn.step s' ⟨i, sz, wt⟩ d)).st = (x : Int) := hx
          rw [hx9] at c1
          have haH := Lib.hid ha
          have cX := ha.2 u hu3
          have cG := hGr.out.2.2 x hx81
          dsimp only at cX
          generalize (clp m (Rn.step s' ⟨i, sz, wt⟩ d)).pos = p9 at c0
          generalize (clp m (Rn.step s' ⟨i, sz, wt⟩ d)).wt = w9 at c2
          have hXb : 0 ≤ slB G s' (rs.take k) u + wt * uSum G s' u sz d ∧ slB G s' (rs.take k) u + wt * uSum G s' u sz d + wt * G x ≤ 1000000000000000000 := by omega
          generalize hXX : slB G s' (rs.take k) u + wt * uSum G s' u sz d = X at cX hXb hYu
          have hXh := Lib.hid hXX
          generalize G (x : Int) = y at hb2 cG hXb hYu
          have hw1 : IntKind.i64.wrap (wt * y) = wt * y := by rw [IntKind.wrap_i64]; omega
          have hw2 : IntKind.i64.wrap (X + wt * y) = X + wt * y := by rw [IntKind.wrap_i64]; omega
          have q0 := (hH3.cell _).trans c0
          have q1 := (hH3.cell _).trans c1
          have q2 := (hH3.cell _).trans c2
          have hQ := Lib.hid (Has.new wq 101 #[.int .i64 p9, .int .i64 x, .int .i64 w9])
          have hN4 := Lib.hid (hN3.alloc (.cells #[.int .i64 p9, .int .i64 x, .int .i64 w9] 101))
          have hH4 := Lib.hid (hH3.alloc (.cells #[.int .i64 p9, .int .i64 x, .int .i64 w9] 101))
          have h64 := Lib.hid (h63.alloc (.cells #[.int .i64 p9, .int .i64 x, .int .i64 w9] 101))
          have h74 := Lib.hid (h73.alloc (.cells #[.int .i64 p9, .int .i64 x, .int .i64 w9] 101))
          have hb4' := Lib.hid (hb.alloc hb.size (.cells #[.int .i64 p9, .int .i64 x, .int .i64 w9] 101))
          have hC6l := h73.lt
          have hd0 : (0 : Int) ≤ (d : Int) := by omega
          have hd1 : (d : Int) < (k9 : Int) := by omega
          have hx0 : (0 : Int) ≤ (x : Int) := by omega
          have hx1 : (x : Int) < 81 := by omega
          have hu0 : (0 : Int) ≤ (u : Int) := by omega
          have hu1 : (u : Int) < 3 := by omega
          clear c0 c1 c2 hpr hN3 hH3 h63 h73 ha hb hxb hub hx hb1 hb2 hb3 hb4 hb5 hua hu hx9 hXX
          go_wp2_with fail
          clear q0 q1 q2
          generalize wq.alloc (.cells #[.int .i64 p9, .int .i64 x, .int .i64 w9] 101) = W0 at hQ hN4 hH4 h64 h74 hb4' ⊢
          have hQN := Lib.hid (show C6 + 1 ≠ wq.heap.size from by omega)
          generalize wq.heap.size = Q at hQ hQN ⊢
          have hGW := Lib.hid (hGr.out.1.kept hb4'.out)
          have hAt3 := Lib.hid (fun (wx : World) (hbx : Below W0.heap.size W0 wx) => (hAt2.out wx (hb4'.out.trans (hbx.mono hb4'.out.size))).open_)
          refine wp_region_any (by kernel_rfl) ?_
          change wpAny _ _ _ _ _ _ _ (World.drew _)
          refine wpAny_tail (n := 19) (c := 1) (I := fun listed aq wx => listed.size = 21 ∧ ∃ v26 v27 v28 v29 v30 v31 v32 v33 v34 v35 v36 v37 v38 v39 v40 v41 v42 v43 v44 : Value, aq = { tmps := #[.slice (some ⟨gs, off, none⟩) m c, .slice (some ⟨b, 0, none⟩) n cr, .slice (some ⟨gr, 0, none⟩) 81 c2, undef, undef, undef, .pointer (some ⟨C6, 0, none⟩), .pointer (some ⟨C6 + 1, 0, none⟩), undef, .pointer (some ⟨N, 0, none⟩), undef, .pointer (some ⟨Q, 0, none⟩), .slice (some ⟨b, 0, none⟩) n cr, .int .i64 ↑n, .int .i64 ↑k, .bool true, .pointer (some ⟨b, k * 3, none⟩), .agg #[.int .i64 ↑i, .int .i64 sz, .int .i64 wt], .slice (some ⟨gs, off, none⟩) m c, .agg #[.int .i64 ↑i, .int .i64 sz, .int .i64 wt], .slice (some ⟨P, 0, none⟩) k9 k9, .int .i64 ↑k9, .int .i64 ↑d, .bool true, .pointer (some ⟨P, d * 3, none⟩), .agg #[.int .i64 ↑p9, .int .i64 ↑x, .int .i64 w9], v26, v27, v28, v29, v30, v31, v32, v33, v34, v35, v36, v37, v38, v39, v40, v41, v42, v43, v44, u45, u46, u47, undef], defers := [] } ∧ (listed.getD 0 false = true → v26 = .slice (some ⟨gs, off, none⟩) m c) ∧ (listed.getD 1 false = true → v27 = .pointer (some ⟨N, 0, none⟩)) ∧ (listed.getD 2 false = true → v28 = .int .i64 ↑i) ∧ (listed.getD 3 false = true → v29 = .pointer (some ⟨gs, off + i * 7, none⟩)) ∧ (listed.getD 4 false = true → v30 = .agg #[.int .i64 s'.k, .int .i64 s'.a, .int .i64 s'.b, .int .i64 s'.c, .int .i64 s'.u, .int .i64 s'.v, .int .i64 s'.x]) ∧ (listed.getD 5 false = true → v31 = .pointer (some ⟨Q, 1, none⟩)) ∧ (listed.getD 6 false = true → v32 = .int .i64 ↑x) ∧ (listed.getD 7 false = true → v33 = .int .i64 ↑u) ∧ (listed.getD 8 false = true → v34 = .pointer (some ⟨C6 + 1, u, none⟩)) ∧ (listed.getD 9 false = true → v35 = .int .i64 X) ∧ (listed.getD 10 false = true → v36 = .pointer (some ⟨N, 2, none⟩)) ∧ (listed.getD 11 false = true → v37 = .int .i64 wt) ∧ (listed.getD 12 false = true → v38 = .slice (some ⟨gr, 0, none⟩) 81 c2) ∧ (listed.getD 13 false = true → v39 = .pointer (some ⟨Q, 1, none⟩)) ∧ (listed.getD 14 false = true → v40 = .int .i64 ↑x) ∧ (listed.getD 15 false = true → v41 = .pointer (some ⟨gr, x, none⟩)) ∧ (listed.getD 16 false = true → v42 = .int .i64 y) ∧ (listed.getD 17 false = true → v43 = .int .i64 (wt * y)) ∧ (listed.getD 18 false = true → v44 = .int .i64 (X + wt * y)) ∧ Below W0.heap.size W0 wx) rfl (by kernel_rfl) (by kernel_rfl) (by kernel_rfl) ?hs ?hl _ _ _ ?st rfl (by decide) _ (by decide)
          case st =>
            refine ⟨rfl, u26, u27, u28, u29, u30, u31, u32, u33, u34, u35, u36, u37, u38, u39, u40, u41, u42, u43, u44, rfl, ?_, ?_, ?_, ?_, ?_, ?_, ?_, ?_, ?_, ?_, ?_, ?_, ?_, ?_, ?_, ?_, ?_, ?_, ?_, (Below.refl _ _).drew⟩ <;> (intro e; exact absurd e (by decide))
          case hs =>
            rintro listed aq wx ⟨hz, v26, v27, v28, v29, v30, v31, v32, v33, v34, v35, v36, v37, v38, v39, v40, v41, v42, v43, v44, rfl, hII⟩ i hin hi
            obtain ⟨h0, o, ho, hd⟩ := mem_ready.1 hi
            have K0 := Lib.hid hII.1
            have K1 := Lib.hid hII.2.1
            have K2 := Lib.hid hII.2.2.1
            have K3 := Lib.hid hII.2.2.2.1
            have K4 := Lib.hid hII.2.2.2.2.1
            have K5 := Lib.hid hII.2.2.2.2.2.1
            have K6 := Lib.hid hII.2.2.2.2.2.2.1
            have K7 := Lib.hid hII.2.2.2.2.2.2.2.1
            have K8 := Lib.hid hII.2.2.2.2.2.2.2.2.1
            have K9 := Lib.hid hII.2.2.2.2.2.2.2.2.2.1
            have K10 := Lib.hid hII.2.2.2.2.2.2.2.2.2.2.1
            have K11 := Lib.hid hII.2.2.2.2.2.2.2.2.2.2.2.1
            have K12 := Lib.hid hII.2.2.2.2.2.2.2.2.2.2.2.2.1
            have K13 := Lib.hid hII.2.2.2.2.2.2.2.2.2.2.2.2.2.1
            have K14 := Lib.hid hII.2.2.2.2.2.2.2.2.2.2.2.2.2.2.1
            have K15 := Lib.hid hII.2.2.2.2.2.2.2.2.2.2.2.2.2.2.2.1
            have K16 := Lib.hid hII.2.2.2.2.2.2.2.2.2.2.2.2.2.2.2.2.1
            have K17 := Lib.hid hII.2.2.2.2.2.2.2.2.2.2.2.2.2.2.2.2.2.1
            have K18 := Lib.hid hII.2.2.2.2.2.2.2.2.2.2.2.2.2.2.2.2.2.2.1
            have hB : Below W0.heap.size W0 wx := hII.2.2.2.2.2.2.2.2.2.2.2.2.2.2.2.2.2.2.2
            have hne := Lib.hid (fun k (hk : i ≠ k) => @listed_ne listed i k hk)
            have n9 := (hN4.out.kept hB).cell
            have q9 := (hQ.out.kept hB).cell
            have x9 := ((h74.out.kept hB).cell u).trans cX
            have f9 := (h74.out.kept hB).frozen u
            have g9 := ((hGW.out.kept hB).cell x).trans cG
            obtain ⟨a0, a1, a2, a3, a4, a5, a6⟩ := hAt3.out wx hB
            have h0f : listed.getD i false = false := by rw [Array.getD_eq_getD_getElem?, getD_false h0]; rfl
            clear hII hi h0
            rcases (by omega : i = 0 ∨ i = 1 ∨ i = 2 ∨ i = 3 ∨ i = 4 ∨ i = 5 ∨ i = 6 ∨ i = 7 ∨ i = 8 ∨ i = 9 ∨ i = 10 ∨ i = 11 ∨ i = 12 ∨ i = 13 ∨ i = 14 ∨ i = 15 ∨ i = 16 ∨ i = 17 ∨ i = 18) with rfl | rfl | rfl | rfl | rfl | rfl | rfl | rfl | rfl | rfl | rfl | rfl | rfl | rfl | rfl | rfl | rfl | rfl | rfl
            · cases ho
              refine wpOp_step rfl (fun K hK => ?_)
              go_simp
              refine hK _ _ ⟨by simpa using hz, .slice (some ⟨gs, off, none⟩) m c, v27, v28, v29, v30, v31, v32, v33, v34, v35, v36, v37, v38, v39, v40, v41, v42, v43, v44, rfl, ?_⟩
              exact ⟨fun _ => rfl, fun e => K1.out (hne.out 1 (by decide) e), fun e => K2.out (hne.out 2 (by decide) e), fun e => K3.out (hne.out 3 (by decide) e), fun e => K4.out (hne.out 4 (by decide) e), fun e => K5.out (hne.out 5 (by decide) e), fun e => K6.out (hne.out 6 (by decide) e), fun e => K7.out (hne.out 7 (by decide) e), fun e => K8.out (hne.out 8 (by decide) e), fun e => K9.out (hne.out 9 (by decide) e), fun e => K10.out (hne.out 10 (by decide) e), fun e => K11.out (hne.out 11 (by decide) e), fun e => K12.out (hne.out 12 (by decide) e), fun e => K13.out (hne.out 13 (by decide) e), fun e => K14.out (hne.out 14 (by decide) e), fun e => K15.out (hne.out 15 (by decide) e), fun e => K16.out (hne.out 16 (by decide) e), fun e => K17.out (hne.out 17 (by decide) e), fun e => K18.out (hne.out 18 (by decide) e), hB⟩
            · cases ho
              refine wpOp_step rfl (fun K hK => ?_)
              go_simp
              refine hK _ _ ⟨by simpa using hz, v26, .pointer (some ⟨N, 0, none⟩), v28, v29, v30, v31, v32, v33, v34, v35, v36, v37, v38, v39, v40, v41, v42, v43, v44, rfl, ?_⟩
              exact ⟨fun e => K0.out (hne.out 0 (by decide) e), fun _ => rfl, fun e => K2.out (hne.out 2 (by decide) e), fun e => K3.out (hne.out 3 (by decide) e), fun e => K4.out (hne.out 4 (by decide) e), fun e => K5.out (hne.out 5 (by decide) e), fun e => K6.out (hne.out 6 (by decide) e), fun e => K7.out (hne.out 7 (by decide) e), fun e => K8.out (hne.out 8 (by decide) e), fun e => K9.out (hne.out 9 (by decide) e), fun e => K10.out (hne.out 10 (by decide) e), fun e => K11.out (hne.out 11 (by decide) e), fun e => K12.out (hne.out 12 (by decide) e), fun e => K13.out (hne.out 13 (by decide) e), fun e => K14.out (hne.out 14 (by decide) e), fun e => K15.out (hne.out 15 (by decide) e), fun e => K16.out (hne.out 16 (by decide) e), fun e => K17.out (hne.out 17 (by decide) e), fun e => K18.out (hne.out 18 (by decide) e), hB⟩
            · cases ho
              have d1 := hd ⟨1, .data⟩ (by simp) rfl
              obtain rfl := K1.out d1
              refine wpOp_step rfl (fun K hK => ?_)
              go_simp
              refine hK _ _ ⟨by simpa using hz, v26, .pointer (some ⟨N, 0, none⟩), .int .i64 ↑i, v29, v30, v31, v32, v33, v34, v35, v36, v37, v38, v39, v40, v41, v42, v43, v44, rfl, ?_⟩
              exact ⟨fun e => K0.out (hne.out 0 (by decide) e), fun e => K1.out (hne.out 1 (by decide) e), fun _ => rfl, fun e => K3.out (hne.out 3 (by decide) e), fun e => K4.out (hne.out 4 (by decide) e), fun e => K5.out (hne.out 5 (by decide) e), fun e => K6.out (hne.out 6 (by decide) e), fun e => K7.out (hne.out 7 (by decide) e), fun e => K8.out (hne.out 8 (by decide) e), fun e => K9.out (hne.out 9 (by decide) e), fun e => K10.out (hne.out 10 (by decide) e), fun e => K11.out (hne.out 11 (by decide) e), fun e => K12.out (hne.out 12 (by decide) e), fun e => K13.out (hne.out 13 (by decide) e), fun e => K14.out (hne.out 14 (by decide) e), fun e => K15.out (hne.out 15 (by decide) e), fun e => K16.out (hne.out 16 (by decide) e), fun e => K17.out (hne.out 17 (by decide) e), fun e => K18.out (hne.out 18 (by decide) e), hB⟩
            · cases ho
              have d0 := hd ⟨0, .data⟩ (by simp) rfl
              have d2 := hd ⟨2, .data⟩ (by simp) rfl
              obtain rfl := K0.out d0
              obtain rfl := K2.out d2
              refine wpOp_step rfl (fun K hK => ?_)
              go_simp
              refine hK _ _ ⟨by simpa using hz, .slice (some ⟨gs, off, none⟩) m c, v27, .int .i64 ↑i, .pointer (some ⟨gs, off + i * 7, none⟩), v30, v31, v32, v33, v34, v35, v36, v37, v38, v39, v40, v41, v42, v43, v44, rfl, ?_⟩
              exact ⟨fun e => K0.out (hne.out 0 (by decide) e), fun e => K1.out (hne.out 1 (by decide) e), fun e => K2.out (hne.out 2 (by decide) e), fun _ => rfl, fun e => K4.out (hne.out 4 (by decide) e), fun e => K5.out (hne.out 5 (by decide) e), fun e => K6.out (hne.out 6 (by decide) e), fun e => K7.out (hne.out 7 (by decide) e), fun e => K8.out (hne.out 8 (by decide) e), fun e => K9.out (hne.out 9 (by decide) e), fun e => K10.out (hne.out 10 (by decide) e), fun e => K11.out (hne.out 11 (by decide) e), fun e => K12.out (hne.out 12 (by decide) e), fun e => K13.out (hne.out 13 (by decide) e), fun e => K14.out (hne.out 14 (by decide) e), fun e => K15.out (hne.out 15 (by decide) e), fun e => K16.out (hne.out 16 (by decide) e), fun e => K17.out (hne.out 17 (by decide) e), fun e => K18.out (hne.out 18 (by decide) e), hB⟩
            · cases ho
              have d3 := hd ⟨3, .data⟩ (by simp) rfl
              obtain rfl := K3.out d3
              refine wpOp_step rfl (fun K hK => ?_)
              go_simp
              refine hK _ _ ⟨by simpa using hz, v26, v27, v28, .pointer (some ⟨gs, off + i * 7, none⟩), .agg #[.int .i64 s'.k, .int .i64 s'.a, .int .i64 s'.b, .int .i64 s'.c, .int .i64 s'.u, .int .i64 s'.v, .int .i64 s'.x], v31, v32, v33, v34, v35, v36, v37, v38, v39, v40, v41, v42, v43, v44, rfl, ?_⟩
              exact ⟨fun e => K0.out (hne.out 0 (by decide) e), fun e => K1.out (hne.out 1 (by decide) e), fun e => K2.out (hne.out 2 (by decide) e), fun e => K3.out (hne.out 3 (by decide) e), fun _ => rfl, fun e => K5.out (hne.out 5 (by decide) e), fun e => K6.out (hne.out 6 (by decide) e), fun e => K7.out (hne.out 7 (by decide) e), fun e => K8.out (hne.out 8 (by decide) e), fun e => K9.out (hne.out 9 (by decide) e), fun e => K10.out (hne.out 10 (by decide) e), fun e => K11.out (hne.out 11 (by decide) e), fun e => K12.out (hne.out 12 (by decide) e), fun e => K13.out (hne.out 13 (by decide) e), fun e => K14.out (hne.out 14 (by decide) e), fun e => K15.out (hne.out 15 (by decide) e), fun e => K16.out (hne.out 16 (by decide) e), fun e => K17.out (hne.out 17 (by decide) e), fun e => K18.out (hne.out 18 (by decide) e), hB⟩
            · cases ho
              refine wpOp_step rfl (fun K hK => ?_)
              go_simp
              refine hK _ _ ⟨by simpa using hz, v26, v27, v28, v29, v30, .pointer (some ⟨Q, 1, none⟩), v32, v33, v34, v35, v36, v37, v38, v39, v40, v41, v42, v43, v44, rfl, ?_⟩
              exact ⟨fun e => K0.out (hne.out 0 (by decide) e), fun e => K1.out (hne.out 1 (by decide) e), fun e => K2.out (hne.out 2 (by decide) e), fun e => K3.out (hne.out 3 (by decide) e), fun e => K4.out (hne.out 4 (by decide) e), fun _ => rfl, fun e => K6.out (hne.out 6 (by decide) e), fun e => K7.out (hne.out 7 (by decide) e), fun e => K8.out (hne.out 8 (by decide) e), fun e => K9.out (hne.out 9 (by decide) e), fun e => K10.out (hne.out 10 (by decide) e), fun e => K11.out (hne.out 11 (by decide) e), fun e => K12.out (hne.out 12 (by decide) e), fun e => K13.out (hne.out 13 (by decide) e), fun e => K14.out (hne.out 14 (by decide) e), fun e => K15.out (hne.out 15 (by decide) e), fun e => K16.out (hne.out 16 (by decide) e), fun e => K17.out (hne.out 17 (by decide) e), fun e => K18.out (hne.out 18 (by decide) e), hB⟩
            · cases ho
              have d5 := hd ⟨5, .data⟩ (by simp) rfl
              obtain rfl := K5.out d5
              refine wpOp_step rfl (fun K hK => ?_)
              go_simp
              refine hK _ _ ⟨by simpa using hz, v26, v27, v28, v29, v30, .pointer (some ⟨Q, 1, none⟩), .int .i64 ↑x, v33, v34, v35, v36, v37, v38, v39, v40, v41, v42, v43, v44, rfl, ?_⟩
              exact ⟨fun e => K0.out (hne.out 0 (by decide) e), fun e => K1.out (hne.out 1 (by decide) e), fun e => K2.out (hne.out 2 (by decide) e), fun e => K3.out (hne.out 3 (by decide) e), fun e => K4.out (hne.out 4 (by decide) e), fun e => K5.out (hne.out 5 (by decide) e), fun _ => rfl, fun e => K7.out (hne.out 7 (by decide) e), fun e => K8.out (hne.out 8 (by decide) e), fun e => K9.out (hne.out 9 (by decide) e), fun e => K10.out (hne.out 10 (by decide) e), fun e => K11.out (hne.out 11 (by decide) e), fun e => K12.out (hne.out 12 (by decide) e), fun e => K13.out (hne.out 13 (by decide) e), fun e => K14.out (hne.out 14 (by decide) e), fun e => K15.out (hne.out 15 (by decide) e), fun e => K16.out (hne.out 16 (by decide) e), fun e => K17.out (hne.out 17 (by decide) e), fun e => K18.out (hne.out 18 (by decide) e), hB⟩
            · cases ho
              have d4 := hd ⟨4, .data⟩ (by simp) rfl
              have d6 := hd ⟨6, .data⟩ (by simp) rfl
              obtain rfl := K4.out d4
              obtain rfl := K6.out d6
              refine wpOp_step rfl (fun K hK => ?_)
              go_simp
              go_at_call 166
              refine (cUx.out _).mono ?_
              rintro e w3 ⟨rfl, hb3⟩
              refine hK _ _ ⟨by simpa using hz, v26, v27, v28, v29, .agg #[.int .i64 s'.k, .int .i64 s'.a, .int .i64 s'.b, .int .i64 s'.c, .int .i64 s'.u, .int .i64 s'.v, .int .i64 s'.x], v31, .int .i64 ↑x, .int .i64 ↑u, v34, v35, v36, v37, v38, v39, v40, v41, v42, v43, v44, rfl, ?_⟩
              exact ⟨fun e => K0.out (hne.out 0 (by decide) e), fun e => K1.out (hne.out 1 (by decide) e), fun e => K2.out (hne.out 2 (by decide) e), fun e => K3.out (hne.out 3 (by decide) e), fun e => K4.out (hne.out 4 (by decide) e), fun e => K5.out (hne.out 5 (by decide) e), fun e => K6.out (hne.out 6 (by decide) e), fun _ => rfl, fun e => K8.out (hne.out 8 (by decide) e), fun e => K9.out (hne.out 9 (by decide) e), fun e => K10.out (hne.out 10 (by decide) e), fun e => K11.out (hne.out 11 (by decide) e), fun e => K12.out (hne.out 12 (by decide) e), fun e => K13.out (hne.out 13 (by decide) e), fun e => K14.out (hne.out 14 (by decide) e), fun e => K15.out (hne.out 15 (by decide) e), fun e => K16.out (hne.out 16 (by decide) e), fun e => K17.out (hne.out 17 (by decide) e), fun e => K18.out (hne.out 18 (by decide) e), hB.trans (hb3.mono hB.size)⟩
            · cases ho
              have d7 := hd ⟨7, .data⟩ (by simp) rfl
              obtain rfl := K7.out d7
              refine wpOp_step rfl (fun K hK => ?_)
              go_simp
              refine hK _ _ ⟨by simpa using hz, v26, v27, v28, v29, v30, v31, v32, .int .i64 ↑u, .pointer (some ⟨C6 + 1, u, none⟩), v35, v36, v37, v38, v39, v40, v41, v42, v43, v44, rfl, ?_⟩
              exact ⟨fun e => K0.out (hne.out 0 (by decide) e), fun e => K1.out (hne.out 1 (by decide) e), fun e => K2.out (hne.out 2 (by decide) e), fun e => K3.out (hne.out 3 (by decide) e), fun e => K4.out (hne.out 4 (by decide) e), fun e => K5.out (hne.out 5 (by decide) e), fun e => K6.out (hne.out 6 (by decide) e), fun e => K7.out (hne.out 7 (by decide) e), fun _ => rfl, fun e => K9.out (hne.out 9 (by decide) e), fun e => K10.out (hne.out 10 (by decide) e), fun e => K11.out (hne.out 11 (by decide) e), fun e => K12.out (hne.out 12 (by decide) e), fun e => K13.out (hne.out 13 (by decide) e), fun e => K14.out (hne.out 14 (by decide) e), fun e => K15.out (hne.out 15 (by decide) e), fun e => K16.out (hne.out 16 (by decide) e), fun e => K17.out (hne.out 17 (by decide) e), fun e => K18.out (hne.out 18 (by decide) e), hB⟩
            · cases ho
              have d8 := hd ⟨8, .data⟩ (by simp) rfl
              obtain rfl := K8.out d8
              refine wpOp_step rfl (fun K hK => ?_)
              go_simp
              refine hK _ _ ⟨by simpa using hz, v26, v27, v28, v29, v30, v31, v32, v33, .pointer (some ⟨C6 + 1, u, none⟩), .int .i64 X, v36, v37, v38, v39, v40, v41, v42, v43, v44, rfl, ?_⟩
              exact ⟨fun e => K0.out (hne.out 0 (by decide) e), fun e => K1.out (hne.out 1 (by decide) e), fun e => K2.out (hne.out 2 (by decide) e), fun e => K3.out (hne.out 3 (by decide) e), fun e => K4.out (hne.out 4 (by decide) e), fun e => K5.out (hne.out 5 (by decide) e), fun e => K6.out (hne.out 6 (by decide) e), fun e => K7.out (hne.out 7 (by decide) e), fun e => K8.out (hne.out 8 (by decide) e), fun _ => rfl, fun e => K10.out (hne.out 10 (by decide) e), fun e => K11.out (hne.out 11 (by decide) e), fun e => K12.out (hne.out 12 (by decide) e), fun e => K13.out (hne.out 13 (by decide) e), fun e => K14.out (hne.out 14 (by decide) e), fun e => K15.out (hne.out 15 (by decide) e), fun e => K16.out (hne.out 16 (by decide) e), fun e => K17.out (hne.out 17 (by decide) e), fun e => K18.out (hne.out 18 (by decide) e), hB⟩
            · cases ho
              refine wpOp_step rfl (fun K hK => ?_)
              go_simp
              refine hK _ _ ⟨by simpa using hz, v26, v27, v28, v29, v30, v31, v32, v33, v34, v35, .pointer (some ⟨N, 2, none⟩), v37, v38, v39, v40, v41, v42, v43, v44, rfl, ?_⟩
              exact ⟨fun e => K0.out (hne.out 0 (by decide) e), fun e => K1.out (hne.out 1 (by decide) e), fun e => K2.out (hne.out 2 (by decide) e), fun e => K3.out (hne.out 3 (by decide) e), fun e => K4.out (hne.out 4 (by decide) e), fun e => K5.out (hne.out 5 (by decide) e), fun e => K6.out (hne.out 6 (by decide) e), fun e => K7.out (hne.out 7 (by decide) e), fun e => K8.out (hne.out 8 (by decide) e), fun e => K9.out (hne.out 9 (by decide) e), fun _ => rfl, fun e => K11.out (hne.out 11 (by decide) e), fun e => K12.out (hne.out 12 (by decide) e), fun e => K13.out (hne.out 13 (by decide) e), fun e => K14.out (hne.out 14 (by decide) e), fun e => K15.out (hne.out 15 (by decide) e), fun e => K16.out (hne.out 16 (by decide) e), fun e => K17.out (hne.out 17 (by decide) e), fun e => K18.out (hne.out 18 (by decide) e), hB⟩
            · cases ho
              have d10 := hd ⟨10, .data⟩ (by simp) rfl
              obtain rfl := K10.out d10
              refine wpOp_step rfl (fun K hK => ?_)
              go_simp
              refine hK _ _ ⟨by simpa using hz, v26, v27, v28, v29, v30, v31, v32, v33, v34, v35, .pointer (some ⟨N, 2, none⟩), .int .i64 wt, v38, v39, v40, v41, v42, v43, v44, rfl, ?_⟩
              exact ⟨fun e => K0.out (hne.out 0 (by decide) e), fun e => K1.out (hne.out 1 (by decide) e), fun e => K2.out (hne.out 2 (by decide) e), fun e => K3.out (hne.out 3 (by decide) e), fun e => K4.out (hne.out 4 (by decide) e), fun e => K5.out (hne.out 5 (by decide) e), fun e => K6.out (hne.out 6 (by decide) e), fun e => K7.out (hne.out 7 (by decide) e), fun e => K8.out (hne.out 8 (by decide) e), fun e => K9.out (hne.out 9 (by decide) e), fun e => K10.out (hne.out 10 (by decide) e), fun _ => rfl, fun e => K12.out (hne.out 12 (by decide) e), fun e => K13.out (hne.out 13 (by decide) e), fun e => K14.out (hne.out 14 (by decide) e), fun e => K15.out (hne.out 15 (by decide) e), fun e => K16.out (hne.out 16 (by decide) e), fun e => K17.out (hne.out 17 (by decide) e), fun e => K18.out (hne.out 18 (by decide) e), hB⟩
            · cases ho
              refine wpOp_step rfl (fun K hK => ?_)
              go_simp
              refine hK _ _ ⟨by simpa using hz, v26, v27, v28, v29, v30, v31, v32, v33, v34, v35, v36, v37, .slice (some ⟨gr, 0, none⟩) 81 c2, v39, v40, v41, v42, v43, v44, rfl, ?_⟩
              exact ⟨fun e => K0.out (hne.out 0 (by decide) e), fun e => K1.out (hne.out 1 (by decide) e), fun e => K2.out (hne.out 2 (by decide) e), fun e => K3.out (hne.out 3 (by decide) e), fun e => K4.out (hne.out 4 (by decide) e), fun e => K5.out (hne.out 5 (by decide) e), fun e => K6.out (hne.out 6 (by decide) e), fun e => K7.out (hne.out 7 (by decide) e), fun e => K8.out (hne.out 8 (by decide) e), fun e => K9.out (hne.out 9 (by decide) e), fun e => K10.out (hne.out 10 (by decide) e), fun e => K11.out (hne.out 11 (by decide) e), fun _ => rfl, fun e => K13.out (hne.out 13 (by decide) e), fun e => K14.out (hne.out 14 (by decide) e), fun e => K15.out (hne.out 15 (by decide) e), fun e => K16.out (hne.out 16 (by decide) e), fun e => K17.out (hne.out 17 (by decide) e), fun e => K18.out (hne.out 18 (by decide) e), hB⟩
            · cases ho
              refine wpOp_step rfl (fun K hK => ?_)
              go_simp
              refine hK _ _ ⟨by simpa using hz, v26, v27, v28, v29, v30, v31, v32, v33, v34, v35, v36, v37, v38, .pointer (some ⟨Q, 1, none⟩), v40, v41, v42, v43, v44, rfl, ?_⟩
              exact ⟨fun e => K0.out (hne.out 0 (by decide) e), fun e => K1.out (hne.out 1 (by decide) e), fun e => K2.out (hne.out 2 (by decide) e), fun e => K3.out (hne.out 3 (by decide) e), fun e => K4.out (hne.out 4 (by decide) e), fun e => K5.out (hne.out 5 (by decide) e), fun e => K6.out (hne.out 6 (by decide) e), fun e => K7.out (hne.out 7 (by decide) e), fun e => K8.out (hne.out 8 (by decide) e), fun e => K9.out (hne.out 9 (by decide) e), fun e => K10.out (hne.out 10 (by decide) e), fun e => K11.out (hne.out 11 (by decide) e), fun e => K12.out (hne.out 12 (by decide) e), fun _ => rfl, fun e => K14.out (hne.out 14 (by decide) e), fun e => K15.out (hne.out 15 (by decide) e), fun e => K16.out (hne.out 16 (by decide) e), fun e => K17.out (hne.out 17 (by decide) e), fun e => K18.out (hne.out 18 (by decide) e), hB⟩
            · cases ho
              have d13 := hd ⟨13, .data⟩ (by simp) rfl
              obtain rfl := K13.out d13
              refine wpOp_step rfl (fun K hK => ?_)
              go_simp
              refine hK _ _ ⟨by simpa using hz, v26, v27, v28, v29, v30, v31, v32, v33, v34, v35, v36, v37, v38, .pointer (some ⟨Q, 1, none⟩), .int .i64 ↑x, v41, v42, v43, v44, rfl, ?_⟩
              exact ⟨fun e => K0.out (hne.out 0 (by decide) e), fun e => K1.out (hne.out 1 (by decide) e), fun e => K2.out (hne.out 2 (by decide) e), fun e => K3.out (hne.out 3 (by decide) e), fun e => K4.out (hne.out 4 (by decide) e), fun e => K5.out (hne.out 5 (by decide) e), fun e => K6.out (hne.out 6 (by decide) e), fun e => K7.out (hne.out 7 (by decide) e), fun e => K8.out (hne.out 8 (by decide) e), fun e => K9.out (hne.out 9 (by decide) e), fun e => K10.out (hne.out 10 (by decide) e), fun e => K11.out (hne.out 11 (by decide) e), fun e => K12.out (hne.out 12 (by decide) e), fun e => K13.out (hne.out 13 (by decide) e), fun _ => rfl, fun e => K15.out (hne.out 15 (by decide) e), fun e => K16.out (hne.out 16 (by decide) e), fun e => K17.out (hne.out 17 (by decide) e), fun e => K18.out (hne.out 18 (by decide) e), hB⟩
            · cases ho
              have d12 := hd ⟨12, .data⟩ (by simp) rfl
              have d14 := hd ⟨14, .data⟩ (by simp) rfl
              obtain rfl := K12.out d12
              obtain rfl := K14.out d14
              refine wpOp_step rfl (fun K hK => ?_)
              go_simp
              refine hK _ _ ⟨by simpa using hz, v26, v27, v28, v29, v30, v31, v32, v33, v34, v35, v36, v37, .slice (some ⟨gr, 0, none⟩) 81 c2, v39, .int .i64 ↑x, .pointer (some ⟨gr, x, none⟩), v42, v43, v44, rfl, ?_⟩
              exact ⟨fun e => K0.out (hne.out 0 (by decide) e), fun e => K1.out (hne.out 1 (by decide) e), fun e => K2.out (hne.out 2 (by decide) e), fun e => K3.out (hne.out 3 (by decide) e), fun e => K4.out (hne.out 4 (by decide) e), fun e => K5.out (hne.out 5 (by decide) e), fun e => K6.out (hne.out 6 (by decide) e), fun e => K7.out (hne.out 7 (by decide) e), fun e => K8.out (hne.out 8 (by decide) e), fun e => K9.out (hne.out 9 (by decide) e), fun e => K10.out (hne.out 10 (by decide) e), fun e => K11.out (hne.out 11 (by decide) e), fun e => K12.out (hne.out 12 (by decide) e), fun e => K13.out (hne.out 13 (by decide) e), fun e => K14.out (hne.out 14 (by decide) e), fun _ => rfl, fun e => K16.out (hne.out 16 (by decide) e), fun e => K17.out (hne.out 17 (by decide) e), fun e => K18.out (hne.out 18 (by decide) e), hB⟩
            · cases ho
              have d15 := hd ⟨15, .data⟩ (by simp) rfl
              obtain rfl := K15.out d15
              refine wpOp_step rfl (fun K hK => ?_)
              go_simp
              refine hK _ _ ⟨by simpa using hz, v26, v27, v28, v29, v30, v31, v32, v33, v34, v35, v36, v37, v38, v39, v40, .pointer (some ⟨gr, x, none⟩), .int .i64 y, v43, v44, rfl, ?_⟩
              exact ⟨fun e => K0.out (hne.out 0 (by decide) e), fun e => K1.out (hne.out 1 (by decide) e), fun e => K2.out (hne.out 2 (by decide) e), fun e => K3.out (hne.out 3 (by decide) e), fun e => K4.out (hne.out 4 (by decide) e), fun e => K5.out (hne.out 5 (by decide) e), fun e => K6.out (hne.out 6 (by decide) e), fun e => K7.out (hne.out 7 (by decide) e), fun e => K8.out (hne.out 8 (by decide) e), fun e => K9.out (hne.out 9 (by decide) e), fun e => K10.out (hne.out 10 (by decide) e), fun e => K11.out (hne.out 11 (by decide) e), fun e => K12.out (hne.out 12 (by decide) e), fun e => K13.out (hne.out 13 (by decide) e), fun e => K14.out (hne.out 14 (by decide) e), fun e => K15.out (hne.out 15 (by decide) e), fun _ => rfl, fun e => K17.out (hne.out 17 (by decide) e), fun e => K18.out (hne.out 18 (by decide) e), hB⟩
            · cases ho
              have d11 := hd ⟨11, .data⟩ (by simp) rfl
              have d16 := hd ⟨16, .data⟩ (by simp) rfl
              obtain rfl := K11.out d11
              obtain rfl := K16.out d16
              refine wpOp_step rfl (fun K hK => ?_)
              go_simp
              refine hK _ _ ⟨by simpa using hz, v26, v27, v28, v29, v30, v31, v32, v33, v34, v35, v36, .int .i64 wt, v38, v39, v40, v41, .int .i64 y, .int .i64 (wt * y), v44, rfl, ?_⟩
              exact ⟨fun e => K0.out (hne.out 0 (by decide) e), fun e => K1.out (hne.out 1 (by decide) e), fun e => K2.out (hne.out 2 (by decide) e), fun e => K3.out (hne.out 3 (by decide) e), fun e => K4.out (hne.out 4 (by decide) e), fun e => K5.out (hne.out 5 (by decide) e), fun e => K6.out (hne.out 6 (by decide) e), fun e => K7.out (hne.out 7 (by decide) e), fun e => K8.out (hne.out 8 (by decide) e), fun e => K9.out (hne.out 9 (by decide) e), fun e => K10.out (hne.out 10 (by decide) e), fun e => K11.out (hne.out 11 (by decide) e), fun e => K12.out (hne.out 12 (by decide) e), fun e => K13.out (hne.out 13 (by decide) e), fun e => K14.out (hne.out 14 (by decide) e), fun e => K15.out (hne.out 15 (by decide) e), fun e => K16.out (hne.out 16 (by decide) e), fun _ => rfl, fun e => K18.out (hne.out 18 (by decide) e), hB⟩
            · cases ho
              have d9 := hd ⟨9, .data⟩ (by simp) rfl
              have d17 := hd ⟨17, .data⟩ (by simp) rfl
              obtain rfl := K9.out d9
              obtain rfl := K17.out d17
              refine wpOp_step rfl (fun K hK => ?_)
              go_simp
              refine hK _ _ ⟨by simpa using hz, v26, v27, v28, v29, v30, v31, v32, v33, v34, .int .i64 X, v36, v37, v38, v39, v40, v41, v42, .int .i64 (wt * y), .int .i64 (X + wt * y), rfl, ?_⟩
              exact ⟨fun e => K0.out (hne.out 0 (by decide) e), fun e => K1.out (hne.out 1 (by decide) e), fun e => K2.out (hne.out 2 (by decide) e), fun e => K3.out (hne.out 3 (by decide) e), fun e => K4.out (hne.out 4 (by decide) e), fun e => K5.out (hne.out 5 (by decide) e), fun e => K6.out (hne.out 6 (by decide) e), fun e => K7.out (hne.out 7 (by decide) e), fun e => K8.out (hne.out 8 (by decide) e), fun e => K9.out (hne.out 9 (by decide) e), fun e => K10.out (hne.out 10 (by decide) e), fun e => K11.out (hne.out 11 (by decide) e), fun e => K12.out (hne.out 12 (by decide) e), fun e => K13.out (hne.out 13 (by decide) e), fun e => K14.out (hne.out 14 (by decide) e), fun e => K15.out (hne.out 15 (by decide) e), fun e => K16.out (hne.out 16 (by decide) e), fun e => K17.out (hne.out 17 (by decide) e), fun _ => rfl, hB⟩
          case hl =>
            rintro listed aq wx ⟨hz, v26, v27, v28, v29, v30, v31, v32, v33, v34, v35, v36, v37, v38, v39, v40, v41, v42, v43, v44, rfl, hII⟩ hall
            have K0 := Lib.hid hII.1
            have K1 := Lib.hid hII.2.1
            have K2 := Lib.hid hII.2.2.1
            have K3 := Lib.hid hII.2.2.2.1
            have K4 := Lib.hid hII.2.2.2.2.1
            have K5 := Lib.hid hII.2.2.2.2.2.1
            have K6 := Lib.hid hII.2.2.2.2.2.2.1
            have K7 := Lib.hid hII.2.2.2.2.2.2.2.1
            have K8 := Lib.hid hII.2.2.2.2.2.2.2.2.1
            have K9 := Lib.hid hII.2.2.2.2.2.2.2.2.2.1
            have K10 := Lib.hid hII.2.2.2.2.2.2.2.2.2.2.1
            have K11 := Lib.hid hII.2.2.2.2.2.2.2.2.2.2.2.1
            have K12 := Lib.hid hII.2.2.2.2.2.2.2.2.2.2.2.2.1
            have K13 := Lib.hid hII.2.2.2.2.2.2.2.2.2.2.2.2.2.1
            have K14 := Lib.hid hII.2.2.2.2.2.2.2.2.2.2.2.2.2.2.1
            have K15 := Lib.hid hII.2.2.2.2.2.2.2.2.2.2.2.2.2.2.2.1
            have K16 := Lib.hid hII.2.2.2.2.2.2.2.2.2.2.2.2.2.2.2.2.1
            have K17 := Lib.hid hII.2.2.2.2.2.2.2.2.2.2.2.2.2.2.2.2.2.1
            have K18 := Lib.hid hII.2.2.2.2.2.2.2.2.2.2.2.2.2.2.2.2.2.2.1
            have hB : Below W0.heap.size W0 wx := hII.2.2.2.2.2.2.2.2.2.2.2.2.2.2.2.2.2.2.2
            have n9 := (hN4.out.kept hB).cell
            have q9 := (hQ.out.kept hB).cell
            have x9 := ((h74.out.kept hB).cell u).trans cX
            have f9 := (h74.out.kept hB).frozen u
            have g9 := ((hGW.out.kept hB).cell x).trans cG
            obtain ⟨a0, a1, a2, a3, a4, a5, a6⟩ := hAt3.out wx hB
            clear hII
            obtain rfl := K0.out (hall 0 (by decide))
            obtain rfl := K1.out (hall 1 (by decide))
            obtain rfl := K2.out (hall 2 (by decide))
            obtain rfl := K3.out (hall 3 (by decide))
            obtain rfl := K4.out (hall 4 (by decide))
            obtain rfl := K5.out (hall 5 (by decide))
            obtain rfl := K6.out (hall 6 (by decide))
            obtain rfl := K7.out (hall 7 (by decide))
            obtain rfl := K8.out (hall 8 (by decide))
            obtain rfl := K9.out (hall 9 (by decide))
            obtain rfl := K10.out (hall 10 (by decide))
            obtain rfl := K11.out (hall 11 (by decide))
            obtain rfl := K12.out (hall 12 (by decide))
            obtain rfl := K13.out (hall 13 (by decide))
            obtain rfl := K14.out (hall 14 (by decide))
            obtain rfl := K15.out (hall 15 (by decide))
            obtain rfl := K16.out (hall 16 (by decide))
            obtain rfl := K17.out (hall 17 (by decide))
            obtain rfl := K18.out (hall 18 (by decide))
            clear hall K0 K1 K2 K3 K4 K5 K6 K7 K8 K9 K10 K11 K12 K13 K14 K15 K16 K17 K18
            unfold wpSeq
            refine wpOp_step rfl (fun K0 hK0 => ?_)
            go_simp
            refine hK0 _ _ ?_
            clear hK0
            unfold wpSeq
            refine wpOp_step rfl (fun K1 hK1 => ?_)
            go_simp
            refine hK1 _ _ ?_
            clear hK1
            unfold wpSeq
            have hX1 := Lib.hid ((hN4.out.kept hB).far (p := ⟨C6 + 1, u, none⟩) (by have := hWr.out; show N ≠ C6 + 1; omega) (.int .i64 (X + wt * y)))
            have hX2 := Lib.hid ((hH4.out.kept hB).far (p := ⟨C6 + 1, u, none⟩) (by show P ≠ C6 + 1; exact hPN.out.2) (.int .i64 (X + wt * y)))
            have hX3 := Lib.hid ((h64.out.kept hB).far (p := ⟨C6 + 1, u, none⟩) (by show C6 ≠ C6 + 1; omega) (.int .i64 (X + wt * y)))
            have hX4 := Lib.hid ((h74.out.kept hB).put u (.int .i64 (X + wt * y)))
            have hX5 := Lib.hid (haH.out.put (Y := fun q => slB G s' (rs.take k) q + wt * uSum G s' q sz (d + 1)) hu3 hYu.out hY.out)
            have hX6 := Lib.hid ((hb4'.out.trans (hB.mono hb4'.out.size)).setCell (p := ⟨C6 + 1, u, none⟩) (by rw [hCc.out]; show C6 ≤ C6 + 1; omega) (.int .i64 (X + wt * y)))
            clear n9 q9 x9 f9 g9 a0 a1 a2 a3 a4 a5 a6 hB
            generalize wx.setCell ⟨C6 + 1, u, none⟩ (.int .i64 (X + wt * y)) = W8 at hX1 hX2 hX3 hX4 hX6 ⊢
            go_wp2_with fail
            go_roundg (k9 - (d + 1))
            case measure => omega
            case rel => exact ⟨d + 1, _, by omega, rfl, by go_num, hX1.out, hX2.out, hX3.out, hX4.out, hX5.out, hX6.out⟩
        · obtain rfl : d = k9 := by omega
          have hX4 := Lib.hid (ha.congr (Y := fun q => slB G s' (rs.take (k + 1)) q) fun q hq => by
            show slB G s' (rs.take k) q + wt * uSum G s' q sz d = slB G s' (rs.take (k + 1)) q
            have h9 : slB G s' (rs.take (k + 1)) (q : Int) = slB G s' (rs.take k) q + wt * uSum G s' q sz s'.many := sumV_take hP.out
            rw [h9, hNe.out])
          have h63' := Lib.hid h63
          have h73' := Lib.hid h73
          have hbH := Lib.hid hb
          clear hN3 hH3 h63 h73 ha hb
          go_wp2_with fail
          go_roundg (n - (k + 1))
          case measure => omega
          case rel => exact ⟨k + 1, cs, by omega, rfl, by go_num, h63'.out, h73'.out, hX4.out, hbH.out⟩
    · obtain rfl : k = n := by omega
      have ha2 := ha.congr (Y := fun q => slB G s' rs q) fun q hq => by
        show slB G s' (rs.take k) q = slB G s' rs q
        rw [List.take_of_length_le (by rw [hN.out]; exact Nat.le_refl _)]
      have e7 := ha2.eq
      have e7' : cs = #[.int .i64 (slB G s' rs 0), .int .i64 (slB G s' rs 1), .int .i64 (slB G s' rs 2)] := e7
      subst e7'
      have c6 := h6.cell
      have f6 := h6.frozen
      have c7 := h7.cell
      have hp6 := Lib.hid (((h6.put 0 (.int .i64 (slB G s' rs 0))).put 1 (.int .i64 (slB G s' rs 1))).put 2 (.int .i64 (slB G s' rs 2)))
      have hb6 := Lib.hid (((hb.setCell (p := ⟨C6, 0, none⟩) (by rw [hCc.out]; exact Nat.le_refl _) (.int .i64 (slB G s' rs 0))).setCell (p := ⟨C6, 1, none⟩) (by rw [hCc.out]; exact Nat.le_refl _) (.int .i64 (slB G s' rs 1))).setCell (p := ⟨C6, 2, none⟩) (by rw [hCc.out]; exact Nat.le_refl _) (.int .i64 (slB G s' rs 2)))
      clear h6 h7 ha ha2 e7 hb
      generalize hq0 : slB G s' rs 0 = z0 at *
      replace hq0 := Lib.hid hq0
      generalize hq1 : slB G s' rs 1 = z1 at *
      replace hq1 := Lib.hid hq1
      generalize hq2 : slB G s' rs 2 = z2 at *
      replace hq2 := Lib.hid hq2
      go_wp2_with fail
      generalize ((wr.setCell ⟨C6, 0, none⟩ (.int .i64 z0)).setCell ⟨C6, 1, none⟩ (.int .i64 z1)).setCell ⟨C6, 2, none⟩ (.int .i64 z2) = W9 at hp6 hb6 ⊢
      have hpc := hp6.out.cell
      simp at hpc
      refine bodyPost_ret (v := .agg #[.int .i64 z0, .int .i64 z1, .int .i64 z2]) (by simp [results, Try.results132, go_sem, hpc]) rfl ⟨by rw [hq0.out, hq1.out, hq2.out], ?_⟩
      exact hb6.out
end Go.Proofs.Ytbndonfpdioibaa
