/- Diagrams: the program's CellSums. -/
import Derived.Test.YtghkpmafocacoaaO6
namespace Go.Proofs.Ytghkpmafocacoaa
set_option maxRecDepth 100000
set_option linter.unusedVariables false
open Go.RowKit

/-- What a kid adds to the sum of its cell. -/
def tmS (ds : List Ce) (v k : Int) : Int := csum ds k.toNat * 3 ^ ((gt ds k.toNat).lev - v - 1).toNat
theorem tmS_bd {ds : List Ce} (h : allOk ds ds.length = true) {i : Nat} (hi : i < ds.length) (hv : (gt ds i).v ≠ -1) (x : Nat) :
    0 ≤ tmS ds (gt ds i).v ((gt ds i).kid x) ∧ tmS ds (gt ds i).v ((gt ds i).kid x) ≤ 27000000000 := by
  obtain ⟨⟨h0, h3⟩, hk⟩ := up_of h i hi hv
  obtain ⟨k1, k2, k3⟩ := hk x
  have hb := csum_bd h (i := ((gt ds i).kid x).toNat) (by omega)
  have hl := lev_bd (up_of h) (i := ((gt ds i).kid x).toNat) (by omega)
  unfold tmS
  generalize (gt ds ((gt ds i).kid x).toNat).lev = l at *
  generalize csum ds ((gt ds i).kid x).toNat = s at *
  generalize (gt ds i).v = v at *
  obtain ⟨v, rfl⟩ : ∃ n : Nat, v = n := ⟨v.toNat, by omega⟩
  obtain ⟨l, rfl⟩ : ∃ n : Nat, l = n := ⟨l.toNat, by omega⟩
  rw [Int.toNat_natCast] at hb
  obtain rfl | rfl | rfl | rfl : v = 0 ∨ v = 1 ∨ v = 2 ∨ v = 3 := by omega
  all_goals
    obtain rfl | rfl | rfl | rfl | rfl : l = 0 ∨ l = 1 ∨ l = 2 ∨ l = 3 ∨ l = 4 := by omega
    all_goals first | omega | (simp at hb ⊢; omega)
/-- A row of sums under way: cell k holds p, those ahead of it their sums, those behind it noughts. -/
def SFill (cs : Array Value) (ds : List Ce) (n k : Nat) (p : Int) : Prop := cs.size = n ∧ (∀ i, i < k → i < n → cs[i]? = some (.int .i64 (csum ds i))) ∧ (k < n → cs[k]? = some (.int .i64 p)) ∧ ∀ i, k < i → i < n → cs[i]? = some (.int .i64 0)
theorem SFill.set {cs : Array Value} {ds : List Ce} {n k : Nat} {p : Int} (h : SFill cs ds n k p) (hk : k < n) (q : Int) : SFill (cs.setIfInBounds k (.int .i64 q)) ds n k q := by
  refine ⟨by simpa using h.1, fun i hi hn => ?_, fun _ => ?_, fun i hi hn => ?_⟩
  · rw [Array.getElem?_setIfInBounds, if_neg (by omega)]; exact h.2.1 i hi hn
  · rw [Array.getElem?_setIfInBounds, if_pos rfl, if_pos (by rw [h.1]; exact hk)]
  · rw [Array.getElem?_setIfInBounds, if_neg (by omega)]; exact h.2.2.2 i hi hn
theorem SFill.next {cs : Array Value} {ds : List Ce} {n k : Nat} {p : Int} (h : SFill cs ds n k p) (hp : p = csum ds k) : SFill cs ds n (k + 1) 0 := by
  refine ⟨h.1, fun i hi hn => ?_, fun hn => h.2.2.2 _ (by omega) hn, fun i hi hn => h.2.2.2 i (by omega) hn⟩
  by_cases e : i = k
  · subst e
    rw [← hp]
    exact h.2.2.1 hn
  · exact h.2.1 i (by omega) hn
theorem SFill.done {cs : Array Value} {ds : List Ce} {n : Nat} {p : Int} (h : SFill cs ds n n p) : cs.toList = ints ((List.range n).map (csum ds)) := by
  apply List.ext_getElem?
  intro x
  rw [Array.getElem?_toList]
  by_cases hx : x < n
  · rw [h.2.1 x hx hx, ints_get (d := csum ds x) (by rw [List.getElem?_map, List.getElem?_range hx]; rfl)]
  · rw [Array.getElem?_eq_none (by rw [h.1]; omega), List.getElem?_eq_none (by rw [ints_length]; simp; omega)]
theorem SFill.init (ds : List Ce) (n : Nat) : SFill (madeCells #[.int .i64 0] n) ds n 0 0 := by
  have hg : ∀ i, i < n → (madeCells #[Value.int .i64 0] n)[i]? = some (.int .i64 0) := fun i hi => by
    rw [← Array.getElem?_toList, toList_madeCells_one, List.getElem?_replicate, if_pos hi]
  exact ⟨size_madeCells _ _, fun i hi => absurd hi (Nat.not_lt_zero _), fun h => hg 0 h, fun i _ hn => hg i hn⟩
set_option maxHeartbeats 4000000 in
theorem CellSums_any (A : Option Addr) (n c : Nat) (ds : List Ce) (w : World) (h : CLst w w.heap.size A n ds) (hn : n ≤ maxLen) (hc : c ≤ maxLen) (hnc : n ≤ c) :
    Calls Try.prog 39 #[.slice A n c] w fun e w' => ∃ v, e = .returned v ∧ IOwn w' w.heap.size v (csums ds) ∧ Below w.heap.size w w' := by
  have cD := Lib.hid (DiagramOk_any A n c ds w h hn hc hnc)
  have hH := Lib.hid h
  have hL := h.1
  clear h
  cases hd : diaOk ds
  · have hR := Lib.hid (show csums ds = [] by unfold csums; rw [hd]; rfl)
    rw [hd] at cD
    clear hd hL hn hc hnc
    go_enter Try.func39, Try.ntmps39
    go_wp2_with fail
    refine cD.out.mono ?_
    rintro e w1 ⟨rfl, hb⟩
    have hB := Lib.hid hb
    clear hb
    go_wp2_with fail
    go_ret
    exact ⟨_, rfl, by rw [hR.out]; exact IOwn.nil _ _, hB.out⟩
  · have hR := Lib.hid (show csums ds = (List.range n).map (csum ds) by unfold csums; rw [if_pos hd, hL])
    rw [hd] at cD
    obtain ⟨d1, d2, d3⟩ := dia_parts hd
    rw [hL] at d1 d2 d3
    have hO := Lib.hid (show allOk ds ds.length = true by rw [hL]; exact d3)
    have hLn := Lib.hid hL
    clear hd d3 hL hn hc
    obtain ⟨i0, hi0, hz0, hz1', hz2'⟩ := info_parts info_int
    have hmk : ∀ wx : World, (Instr.makeSlice 31 (.int .i64 (n : Int)) (.int .i64 (n : Int))).run Try.prog wx = .ok (.slice (some ⟨wx.heap.size, 0, none⟩) n n) (wx.alloc (.cells (madeCells (Value.int .i64 0).cells (n * 1)) 3)) := by
      intro wx
      have hr := run_make (P := Try.prog) wx 31 3 i0 _ Try.underlying31 hi0 hz0 .i64 .i64 (n : Int) (n : Int) (by omega) (by omega) (by rw [hz2']; omega) (by omega)
      rw [hz1'] at hr
      simp only [Int.toNat_natCast] at hr
      exact hr
    go_enter Try.func39, Try.ntmps39
    go_wp2_with fail
    refine cD.out.mono ?_
    rintro e w1 ⟨rfl, hb⟩
    have hB1 := Lib.hid (hb.alloc hb.size (.cells (madeCells #[Value.int .i64 0] n) 3))
    have hh1 := Lib.hid (Has.new w1 3 (madeCells #[.int .i64 0] n))
    have hz1 := hb.size
    clear hb
    go_wp2_with fail
    clear hmk
    generalize w1.alloc (.cells (madeCells #[Value.int .i64 0] n) 3) = W1 at hB1 hh1 ⊢
    generalize w1.heap.size = gs at hh1 hz1 ⊢
    go_loopw [16] (fun i wr => ∃ (k : Nat) (cs : Array Value), k ≤ n ∧ i = .int .i64 k ∧ Has wr gs 3 cs ∧ SFill cs ds n k 0 ∧ Below w.heap.size w wr) (fun i _ => n - (intOf i).toNat)
    case atStart => exact ⟨0, _, Nat.zero_le _, rfl, hh1.out, SFill.init _ _, hB1.out⟩
    case round =>
      obtain ⟨k, cs, hk, rfl, hhas, hfill, hb⟩ := hrel
      have hHas := Lib.hid hhas
      have hFill := Lib.hid hfill
      have hB := Lib.hid hb
      have hzr := hb.size
      by_cases hlt : k < n
      · obtain ⟨g, off, rfl, hg, hat⟩ := (hH.out.below hb).gt_ hlt
        obtain ⟨c0, c1, c2, c3, c4⟩ := hat.open_
        have hkl : k < ds.length := by rw [hLn.out]; exact hlt
        have hU := Lib.hid (fun hv => up_of hO.out k hkl hv)
        have hT := Lib.hid (fun hv x => tmS_bd hO.out hkl hv x)
        have hS := Lib.hid (fun hv => csum_step (up_of hO.out) hkl hv)
        have hE := Lib.hid (fun hv => csum_leaf (ds := ds) (i := k) hv)
        generalize hcs : csum ds k = cv at hS hE
        have hCv := Lib.hid hcs
        clear hcs
        generalize gt ds k = s at *
        have hglt := hhas.lt
        have hW := Lib.hid (Has.new wr 47 #[.int .i64 s.v, .int .i64 s.n, .int .i64 s.a, .int .i64 s.b, .int .i64 s.c])
        have hB2 := Lib.hid (hb.alloc hzr (.cells #[.int .i64 s.v, .int .i64 s.n, .int .i64 s.a, .int .i64 s.b, .int .i64 s.c] 47))
        have hH2 := Lib.hid (hhas.alloc (.cells #[.int .i64 s.v, .int .i64 s.n, .int .i64 s.a, .int .i64 s.b, .int .i64 s.c] 47))
        have hk0 : (0 : Int) ≤ (k : Int) := by omega
        have hk1 : (k : Int) < (n : Int) := by omega
        have hne : wr.heap.size ≠ gs := by omega
        rcases ce_leaf s with hv | hv
        · have hv' : s.v = -1 := by simpa using hv
          have hEq := Lib.hid (hE.out hv')
          obtain ⟨u0, e0⟩ : ∃ u, wr.cell? ⟨gs, k, none⟩ = some u := ⟨_, (hhas.cell k).trans (Array.getElem?_eq_getElem (by rw [hfill.1]; exact hlt))⟩
          have f0 := hhas.frozen k
          have hN := Lib.hid ((hhas.put k (.int .i64 s.n)).alloc (.cells #[.int .i64 s.v, .int .i64 s.n, .int .i64 s.a, .int .i64 s.b, .int .i64 s.c] 47))
          have hBn := Lib.hid ((hb.setCell (p := ⟨gs, k, none⟩) hz1 (.int .i64 s.n)).alloc (by simpa using hzr) (.cells #[.int .i64 s.v, .int .i64 s.n, .int .i64 s.a, .int .i64 s.b, .int .i64 s.c] 47))
          clear hv' hhas hfill hb hat hU hT hS hE hW hB2 hH2
          go_wp2_with fail
          go_roundw
          case rel => exact ⟨k + 1, _, by omega, by go_num, hN.out, (hFill.out.set hlt _).next (by rw [hCv.out]; exact hEq.out.symm), hBn.out⟩
          case measure => (simp [intOf]; try omega)
        · have hv' : s.v ≠ -1 := by simpa using hv
          obtain ⟨⟨hv0, hv3⟩, hkid⟩ := hU.out hv'
          have hTb := hT.out hv'
          have hEq := Lib.hid (hS.out hv')
          have hFr := hFill.out
          obtain ⟨vn, hvn⟩ : ∃ vn : Nat, s.v = vn := ⟨_, (Int.toNat_of_nonneg hv0).symm⟩
          obtain ⟨ja, hja⟩ : ∃ j : Nat, s.a = j := ⟨_, (Int.toNat_of_nonneg (hkid 0).1).symm⟩
          obtain ⟨jb, hjb⟩ : ∃ j : Nat, s.b = j := ⟨_, (Int.toNat_of_nonneg (hkid 1).1).symm⟩
          obtain ⟨jc, hjc⟩ : ∃ j : Nat, s.c = j := ⟨_, (Int.toNat_of_nonneg (hkid 2).1).symm⟩
          have hKa : 0 ≤ s.a ∧ s.a < k ∧ s.v < (gt ds s.a.toNat).lev := hkid 0
          have hKb : 0 ≤ s.b ∧ s.b < k ∧ s.v < (gt ds s.b.toNat).lev := hkid 1
          have hKc : 0 ≤ s.c ∧ s.c < k ∧ s.v < (gt ds s.c.toNat).lev := hkid 2
          have hTa : 0 ≤ tmS ds s.v s.a ∧ tmS ds s.v s.a ≤ 27000000000 := hTb 0
          have hTbb : 0 ≤ tmS ds s.v s.b ∧ tmS ds s.v s.b ≤ 27000000000 := hTb 1
          have hTc : 0 ≤ tmS ds s.v s.c ∧ tmS ds s.v s.c ≤ 27000000000 := hTb 2
          have hs : s = ⟨vn, s.n, ja, jb, jc⟩ := ce_inj.1 ⟨hvn, rfl, hja, hjb, hjc⟩
          generalize s.n = sn at hs
          clear hhas hfill hb hat hU hT hS hE hkid hTb hv0 hvn hja hjb hjc
          subst hs
          dsimp only at *
          rw [Int.toNat_natCast] at hKa hKb hKc
          clear hv'
          go_wp2_with fail
          clear c0 c1 c2 c3 c4
          generalize wr.alloc (.cells #[.int .i64 (vn : Int), .int .i64 sn, .int .i64 (ja : Int), .int .i64 (jb : Int), .int .i64 (jc : Int)] 47) = W2 at hW hB2 hH2 ⊢
          generalize wr.heap.size = gc at hW hne ⊢
          have hxc := hW.out.cell
          go_wp2_with fail
          clear hxc
          have i0 : ∀ w, (Instr.index 45 (.agg #[.int .i64 (ja : Int), .int .i64 (jb : Int), .int .i64 (jc : Int)]) (.int .i64 0)).run Try.prog w = .ok (.int .i64 (ja : Int)) w := fun _ => by kernel_rfl
          have i1 : ∀ w, (Instr.index 45 (.agg #[.int .i64 (ja : Int), .int .i64 (jb : Int), .int .i64 (jc : Int)]) (.int .i64 1)).run Try.prog w = .ok (.int .i64 (jb : Int)) w := fun _ => by kernel_rfl
          have i2 : ∀ w, (Instr.index 45 (.agg #[.int .i64 (ja : Int), .int .i64 (jb : Int), .int .i64 (jc : Int)]) (.int .i64 2)).run Try.prog w = .ok (.int .i64 (jc : Int)) w := fun _ => by kernel_rfl
          go_loopw [31] (fun i wq => ∃ (cs : Array Value) (p : Int), Has wq gs 3 cs ∧ SFill cs ds n k p ∧ Below w.heap.size w wq ∧ Has wq gc 47 #[.int .i64 (vn : Int), .int .i64 sn, .int .i64 (ja : Int), .int .i64 (jb : Int), .int .i64 (jc : Int)] ∧ ((i = .int .i64 0 ∧ p = 0) ∨ (i = .int .i64 1 ∧ p = 0 + tmS ds vn ja) ∨ (i = .int .i64 2 ∧ p = 0 + tmS ds vn ja + tmS ds vn jb) ∨ (i = .int .i64 3 ∧ p = 0 + tmS ds vn ja + tmS ds vn jb + tmS ds vn jc))) (fun i _ => 3 - (intOf i).toNat)
          case atStart => exact ⟨_, 0, hH2.out, hFr, hB2.out, hW.out, .inl ⟨rfl, rfl⟩⟩
          case round =>
            obtain ⟨cq, p, hhq, hfq, hbq, hwq, hrel⟩ := hrel
            obtain ⟨wq, rfl⟩ : ∃ x : World, x = wr := ⟨_, rfl⟩
            clear hH2 hB2 hW hHas hFill hB hglt hzr hFr
            have hzq := hbq.size
            have hHq := Lib.hid hhq
            have hFq := Lib.hid hfq
            have hBq := Lib.hid hbq
            have hWq := Lib.hid hwq
            rcases hrel with ⟨rfl, hp⟩ | ⟨rfl, hp⟩ | ⟨rfl, hp⟩ | ⟨rfl, hp⟩
            · have hp0 : 0 ≤ p ∧ p ≤ 100000000000 := by omega
              have hP := Lib.hid hp
              clear hp
              have hT' : tmS ds vn ja = csum ds ((ja : Int)).toNat * 3 ^ ((gt ds ((ja : Int)).toNat).lev - vn - 1).toNat := rfl
              obtain ⟨hj0, hj1, hj2⟩ := hKa
              generalize ja = j at *
              have hjk : j < k := by omega
              have hjn : j < n := by omega
              have hlb := lev_bd (up_of hO.out) (i := j) (by rw [hLn.out]; omega)
              have hcb := csum_bd hO.out (i := j) (by rw [hLn.out]; omega)
              rw [Int.toNat_natCast] at hT'
              obtain ⟨ln, hln⟩ : ∃ ln : Nat, (gt ds j).lev = ln := ⟨_, (Int.toNat_of_nonneg hlb.1).symm⟩
              obtain ⟨g', off', eA, hg', hat⟩ := (hH.out.below hBq.out).gt_ (k := j) (by omega)
              injection eA with eA
              injection eA with eA1 eA2 _
              subst eA1 eA2
              have cL := Lib.hid (fun wx => levelOf_any (gt ds j) wx)
              have hc7 : cq[j]? = some (.int .i64 (csum ds j)) := hfq.2.1 j hjk hjn
              have hck : cq[k]? = some (.int .i64 p) := hfq.2.2.1 hlt
              rw [hln] at cL hT' hj2
              have hln4 : ln ≤ 4 := by omega
              have hvl : vn + 1 ≤ ln := by omega
              rw [show ((ln : Int) - vn - 1).toNat = ln - (vn + 1) by omega] at hT'
              generalize htj : tmS ds (vn : Int) (j : Int) = tj at *
              have cF := Lib.hid (fun wx => sumFrom_any (csum ds j) (vn + 1) ln wx hvl hln4 hcb.1 (by rw [← hT']; omega))
              rw [← hT'] at cF
              have hP2 := Lib.hid (show p + tj = 0 + tj by rw [hP.out])
              generalize csum ds j = cj at *
              generalize gt ds j = d at *
              obtain ⟨c0, c1, c2, c3, c4⟩ := hat.open_
              have hgz : g < wq.heap.size := by omega
              have hOk := Lib.hid (fun (wx : World) (hx : Below wq.heap.size wq wx) => (show Below wq.heap.size wq wx ∧ wx.cell? ⟨gs, k, none⟩ = some (.int .i64 p) ∧ wx.cell? ⟨gs, j, none⟩ = some (.int .i64 cj) ∧ wx.cell? ⟨gc, 0, none⟩ = some (.int .i64 (vn : Int)) ∧ wx.cell? ⟨g, off + j * 5, none⟩ = some (.int .i64 d.v) ∧ wx.cell? ⟨g, off + j * 5 + 1, none⟩ = some (.int .i64 d.n) ∧ wx.cell? ⟨g, off + j * 5 + 2, none⟩ = some (.int .i64 d.a) ∧ wx.cell? ⟨g, off + j * 5 + 3, none⟩ = some (.int .i64 d.b) ∧ wx.cell? ⟨g, off + j * 5 + 4, none⟩ = some (.int .i64 d.c) from ⟨hx, ((hHq.out.kept hx).cell k).trans hck, ((hHq.out.kept hx).cell j).trans hc7, (hWq.out.kept hx).cell 0, (hx.cell (p := ⟨g, off + j * 5, none⟩) (by exact hgz)).trans c0, (hx.cell (p := ⟨g, off + j * 5 + 1, none⟩) (by exact hgz)).trans c1, (hx.cell (p := ⟨g, off + j * 5 + 2, none⟩) (by exact hgz)).trans c2, (hx.cell (p := ⟨g, off + j * 5 + 3, none⟩) (by exact hgz)).trans c3, (hx.cell (p := ⟨g, off + j * 5 + 4, none⟩) (by exact hgz)).trans c4⟩))
              have htb : 0 ≤ tj ∧ tj ≤ 27000000000 := hTa
              have hPP := Lib.hid htj
              clear hat hc7 hck hT' hlb hcb c0 c1 c2 c3 c4 hj0 hj1 hj2 hv3 hln htj hfq hv hTa hTbb hTc
              go_wp2_with fail
              clear hhq hbq hwq
              refine wp_region_any (by kernel_rfl) ?_
              change wpAny _ _ _ _ _ _ _ (World.drew _)
              refine wpAny_last (n := 19) (I := fun listed aq wx => listed.size = 20 ∧ ∃ v34 v35 v36 v37 v38 v39 v40 v41 v42 v43 v44 v45 v46 v47 v48 v49 v50 v51 v52 : Value, aq = { tmps := #[.slice (some ⟨g, off, none⟩) n c, undef, .slice none 0 0, .slice (some ⟨gs, 0, none⟩) n n, .int .i64 ↑k, .pointer (some ⟨gc, 0, none⟩), undef, .int .i64 ↑j, .slice (some ⟨g, off, none⟩) n c, .bool true, .bool false, .slice (some ⟨g, off, none⟩) n c, .int .i64 ↑n, .slice (some ⟨gs, 0, none⟩) n n, .slice (some ⟨g, off, none⟩) n c, .int .i64 ↑n, .int .i64 ↑k, .bool true, .int .i64 ↑k, .pointer (some ⟨g, off + k * 5, none⟩), .agg #[.int .i64 ↑vn, .int .i64 sn, .int .i64 ↑j, .int .i64 ↑jb, .int .i64 ↑jc], .pointer (some ⟨gc, 0, none⟩), .int .i64 ↑vn, .bool false, u24, u25, u26, u27, u28, .pointer (some ⟨gc, 2, none⟩), .agg #[.int .i64 ↑j, .int .i64 ↑jb, .int .i64 ↑jc], .int .i64 0, .bool true, .int .i64 ↑j, v34, v35, v36, v37, v38, v39, v40, v41, v42, v43, v44, v45, v46, v47, v48, v49, v50, v51, v52, u53, u54, undef], defers := [] } ∧ (listed.getD 0 false = true → v34 = .slice (some ⟨gs, 0, none⟩) n n) ∧ (listed.getD 1 false = true → v35 = .int .i64 ↑k) ∧ (listed.getD 2 false = true → v36 = .pointer (some ⟨gs, k, none⟩)) ∧ (listed.getD 3 false = true → v37 = .int .i64 p) ∧ (listed.getD 4 false = true → v38 = .slice (some ⟨gs, 0, none⟩) n n) ∧ (listed.getD 5 false = true → v39 = .int .i64 ↑j) ∧ (listed.getD 6 false = true → v40 = .pointer (some ⟨gs, j, none⟩)) ∧ (listed.getD 7 false = true → v41 = .int .i64 cj) ∧ (listed.getD 8 false = true → v42 = .pointer (some ⟨gc, 0, none⟩)) ∧ (listed.getD 9 false = true → v43 = .int .i64 (vn : Int)) ∧ (listed.getD 10 false = true → v44 = .int .i64 ((vn : Int) + 1)) ∧ (listed.getD 11 false = true → v45 = .slice (some ⟨g, off, none⟩) n c) ∧ (listed.getD 12 false = true → v46 = .int .i64 ↑j) ∧ (listed.getD 13 false = true → v47 = .pointer (some ⟨g, off + j * 5, none⟩)) ∧ (listed.getD 14 false = true → v48 = .agg #[.int .i64 d.v, .int .i64 d.n, .int .i64 d.a, .int .i64 d.b, .int .i64 d.c]) ∧ (listed.getD 15 false = true → v49 = .int .i64 (ln : Int)) ∧ (listed.getD 16 false = true → v50 = .int .i64 tj) ∧ (listed.getD 17 false = true → v51 = .int .i64 (p + tj)) ∧ (listed.getD 18 false = true → v52 = .pointer (some ⟨gs, k, none⟩)) ∧ Below wq.heap.size wq wx) rfl (by kernel_rfl) (by kernel_rfl) ?hs ?hl _ _ _ ?st rfl (by decide) _ (by decide)
              case st =>
                refine ⟨rfl, u34, u35, u36, u37, u38, u39, u40, u41, u42, u43, u44, u45, u46, u47, u48, u49, u50, u51, u52, rfl, ?_, ?_, ?_, ?_, ?_, ?_, ?_, ?_, ?_, ?_, ?_, ?_, ?_, ?_, ?_, ?_, ?_, ?_, ?_, (Below.refl _ _).drew⟩ <;> (intro e; exact absurd e (by decide))
              case hs =>
                rintro listed aq wx ⟨hz, v34, v35, v36, v37, v38, v39, v40, v41, v42, v43, v44, v45, v46, v47, v48, v49, v50, v51, v52, rfl, hII⟩ i hin hi
                obtain ⟨h0, o, ho, hd⟩ := mem_ready.1 hi
                have K0 := Lib.hid hII.1
                have K1 := Lib.hid hII.2.1
                have K2 := Lib.hid hII.2.2.1
                have K3 := Lib.hid hII.2.2.2.1
                have K4 := Lib.hid hII.2.2.2.2.1
                have K5 := Lib.hid hII.2.2.2.2.2.1
                have K6 := Lib.hid hII.2.2.2.2.2.2.1
                have K7 := Lib.hid hII.2.2.2.2.2.2.2.1
                have K8 := Lib.hid hII.2.2.2.2.2.2.2.2.1
                have K9 := Lib.hid hII.2.2.2.2.2.2.2.2.2.1
                have K10 := Lib.hid hII.2.2.2.2.2.2.2.2.2.2.1
                have K11 := Lib.hid hII.2.2.2.2.2.2.2.2.2.2.2.1
                have K12 := Lib.hid hII.2.2.2.2.2.2.2.2.2.2.2.2.1
                have K13 := Lib.hid hII.2.2.2.2.2.2.2.2.2.2.2.2.2.1
                have K14 := Lib.hid hII.2.2.2.2.2.2.2.2.2.2.2.2.2.2.1
                have K15 := Lib.hid hII.2.2.2.2.2.2.2.2.2.2.2.2.2.2.2.1
                have K16 := Lib.hid hII.2.2.2.2.2.2.2.2.2.2.2.2.2.2.2.2.1
                have K17 := Lib.hid hII.2.2.2.2.2.2.2.2.2.2.2.2.2.2.2.2.2.1
                have K18 := Lib.hid hII.2.2.2.2.2.2.2.2.2.2.2.2.2.2.2.2.2.2.1
                have hB : Below wq.heap.size wq wx := hII.2.2.2.2.2.2.2.2.2.2.2.2.2.2.2.2.2.2.2
                have hne := Lib.hid (fun k (hk : i ≠ k) => @listed_ne listed i k hk)
                have h0f : listed.getD i false = false := by rw [Array.getD_eq_getD_getElem?, getD_false h0]; rfl
                clear hII hi h0
                rcases (by omega : i = 0 ∨ i = 1 ∨ i = 2 ∨ i = 3 ∨ i = 4 ∨ i = 5 ∨ i = 6 ∨ i = 7 ∨ i = 8 ∨ i = 9 ∨ i = 10 ∨ i = 11 ∨ i = 12 ∨ i = 13 ∨ i = 14 ∨ i = 15 ∨ i = 16 ∨ i = 17 ∨ i = 18) with rfl | rfl | rfl | rfl | rfl | rfl | rfl | rfl | rfl | rfl | rfl | rfl | rfl | rfl | rfl | rfl | rfl | rfl | rfl
                · cases ho
                  refine wpOp_step rfl (fun K hK => ?_)
                  go_simp
                  refine hK _ _ ⟨by simpa using hz, .slice (some ⟨gs, 0, none⟩) n n, v35, v36, v37, v38, v39, v40, v41, v42, v43, v44, v45, v46, v47, v48, v49, v50, v51, v52, rfl, ?_⟩
                  exact ⟨fun _ => rfl, fun e => K1.out (hne.out 1 (by decide) e), fun e => K2.out (hne.out 2 (by decide) e), fun e => K3.out (hne.out 3 (by decide) e), fun e => K4.out (hne.out 4 (by decide) e), fun e => K5.out (hne.out 5 (by decide) e), fun e => K6.out (hne.out 6 (by decide) e), fun e => K7.out (hne.out 7 (by decide) e), fun e => K8.out (hne.out 8 (by decide) e), fun e => K9.out (hne.out 9 (by decide) e), fun e => K10.out (hne.out 10 (by decide) e), fun e => K11.out (hne.out 11 (by decide) e), fun e => K12.out (hne.out 12 (by decide) e), fun e => K13.out (hne.out 13 (by decide) e), fun e => K14.out (hne.out 14 (by decide) e), fun e => K15.out (hne.out 15 (by decide) e), fun e => K16.out (hne.out 16 (by decide) e), fun e => K17.out (hne.out 17 (by decide) e), fun e => K18.out (hne.out 18 (by decide) e), hB⟩
                · cases ho
                  refine wpOp_step rfl (fun K hK => ?_)
                  go_simp
                  refine hK _ _ ⟨by simpa using hz, v34, .int .i64 ↑k, v36, v37, v38, v39, v40, v41, v42, v43, v44, v45, v46, v47, v48, v49, v50, v51, v52, rfl, ?_⟩
                  exact ⟨fun e => K0.out (hne.out 0 (by decide) e), fun _ => rfl, fun e => K2.out (hne.out 2 (by decide) e), fun e => K3.out (hne.out 3 (by decide) e), fun e => K4.out (hne.out 4 (by decide) e), fun e => K5.out (hne.out 5 (by decide) e), fun e => K6.out (hne.out 6 (by decide) e), fun e => K7.out (hne.out 7 (by decide) e), fun e => K8.out (hne.out 8 (by decide) e), fun e => K9.out (hne.out 9 (by decide) e), fun e => K10.out (hne.out 10 (by decide) e), fun e => K11.out (hne.out 11 (by decide) e), fun e => K12.out (hne.out 12 (by decide) e), fun e => K13.out (hne.out 13 (by decide) e), fun e => K14.out (hne.out 14 (by decide) e), fun e => K15.out (hne.out 15 (by decide) e), fun e => K16.out (hne.out 16 (by decide) e), fun e => K17.out (hne.out 17 (by decide) e), fun e => K18.out (hne.out 18 (by decide) e), hB⟩
                · cases ho
                  have d0 := hd ⟨0, .data⟩ (by simp) rfl
                  have d1 := hd ⟨1, .data⟩ (by simp) rfl
                  obtain rfl := K0.out d0
                  obtain rfl := K1.out d1
                  have hk0 : (0 : Int) ≤ (k : Int) := by omega
                  have hk1 : (k : Int) < (n : Int) := by omega
                  refine wpOp_step rfl (fun K hK => ?_)
                  go_simp
                  refine hK _ _ ⟨by simpa using hz, .slice (some ⟨gs, 0, none⟩) n n, .int .i64 ↑k, .pointer (some ⟨gs, k, none⟩), v37, v38, v39, v40, v41, v42, v43, v44, v45, v46, v47, v48, v49, v50, v51, v52, rfl, ?_⟩
                  exact ⟨fun e => K0.out (hne.out 0 (by decide) e), fun e => K1.out (hne.out 1 (by decide) e), fun _ => rfl, fun e => K3.out (hne.out 3 (by decide) e), fun e => K4.out (hne.out 4 (by decide) e), fun e => K5.out (hne.out 5 (by decide) e), fun e => K6.out (hne.out 6 (by decide) e), fun e => K7.out (hne.out 7 (by decide) e), fun e => K8.out (hne.out 8 (by decide) e), fun e => K9.out (hne.out 9 (by decide) e), fun e => K10.out (hne.out 10 (by decide) e), fun e => K11.out (hne.out 11 (by decide) e), fun e => K12.out (hne.out 12 (by decide) e), fun e => K13.out (hne.out 13 (by decide) e), fun e => K14.out (hne.out 14 (by decide) e), fun e => K15.out (hne.out 15 (by decide) e), fun e => K16.out (hne.out 16 (by decide) e), fun e => K17.out (hne.out 17 (by decide) e), fun e => K18.out (hne.out 18 (by decide) e), hB⟩
                · cases ho
                  have d2 := hd ⟨2, .data⟩ (by simp) rfl
                  obtain rfl := K2.out d2
                  obtain ⟨_, e0, e1, e2, e3, e4, e5, e6, e7⟩ := hOk.out wx hB
                  refine wpOp_step rfl (fun K hK => ?_)
                  go_simp
                  refine hK _ _ ⟨by simpa using hz, v34, v35, .pointer (some ⟨gs, k, none⟩), .int .i64 p, v38, v39, v40, v41, v42, v43, v44, v45, v46, v47, v48, v49, v50, v51, v52, rfl, ?_⟩
                  exact ⟨fun e => K0.out (hne.out 0 (by decide) e), fun e => K1.out (hne.out 1 (by decide) e), fun e => K2.out (hne.out 2 (by decide) e), fun _ => rfl, fun e => K4.out (hne.out 4 (by decide) e), fun e => K5.out (hne.out 5 (by decide) e), fun e => K6.out (hne.out 6 (by decide) e), fun e => K7.out (hne.out 7 (by decide) e), fun e => K8.out (hne.out 8 (by decide) e), fun e => K9.out (hne.out 9 (by decide) e), fun e => K10.out (hne.out 10 (by decide) e), fun e => K11.out (hne.out 11 (by decide) e), fun e => K12.out (hne.out 12 (by decide) e), fun e => K13.out (hne.out 13 (by decide) e), fun e => K14.out (hne.out 14 (by decide) e), fun e => K15.out (hne.out 15 (by decide) e), fun e => K16.out (hne.out 16 (by decide) e), fun e => K17.out (hne.out 17 (by decide) e), fun e => K18.out (hne.out 18 (by decide) e), hB⟩
                · cases ho
                  refine wpOp_step rfl (fun K hK => ?_)
                  go_simp
                  refine hK _ _ ⟨by simpa using hz, v34, v35, v36, v37, .slice (some ⟨gs, 0, none⟩) n n, v39, v40, v41, v42, v43, v44, v45, v46, v47, v48, v49, v50, v51, v52, rfl, ?_⟩
                  exact ⟨fun e => K0.out (hne.out 0 (by decide) e), fun e => K1.out (hne.out 1 (by decide) e), fun e => K2.out (hne.out 2 (by decide) e), fun e => K3.out (hne.out 3 (by decide) e), fun _ => rfl, fun e => K5.out (hne.out 5 (by decide) e), fun e => K6.out (hne.out 6 (by decide) e), fun e => K7.out (hne.out 7 (by decide) e), fun e => K8.out (hne.out 8 (by decide) e), fun e => K9.out (hne.out 9 (by decide) e), fun e => K10.out (hne.out 10 (by decide) e), fun e => K11.out (hne.out 11 (by decide) e), fun e => K12.out (hne.out 12 (by decide) e), fun e => K13.out (hne.out 13 (by decide) e), fun e => K14.out (hne.out 14 (by decide) e), fun e => K15.out (hne.out 15 (by decide) e), fun e => K16.out (hne.out 16 (by decide) e), fun e => K17.out (hne.out 17 (by decide) e), fun e => K18.out (hne.out 18 (by decide) e), hB⟩
                · cases ho
                  refine wpOp_step rfl (fun K hK => ?_)
                  go_simp
                  refine hK _ _ ⟨by simpa using hz, v34, v35, v36, v37, v38, .int .i64 ↑j, v40, v41, v42, v43, v44, v45, v46, v47, v48, v49, v50, v51, v52, rfl, ?_⟩
                  exact ⟨fun e => K0.out (hne.out 0 (by decide) e), fun e => K1.out (hne.out 1 (by decide) e), fun e => K2.out (hne.out 2 (by decide) e), fun e => K3.out (hne.out 3 (by decide) e), fun e => K4.out (hne.out 4 (by decide) e), fun _ => rfl, fun e => K6.out (hne.out 6 (by decide) e), fun e => K7.out (hne.out 7 (by decide) e), fun e => K8.out (hne.out 8 (by decide) e), fun e => K9.out (hne.out 9 (by decide) e), fun e => K10.out (hne.out 10 (by decide) e), fun e => K11.out (hne.out 11 (by decide) e), fun e => K12.out (hne.out 12 (by decide) e), fun e => K13.out (hne.out 13 (by decide) e), fun e => K14.out (hne.out 14 (by decide) e), fun e => K15.out (hne.out 15 (by decide) e), fun e => K16.out (hne.out 16 (by decide) e), fun e => K17.out (hne.out 17 (by decide) e), fun e => K18.out (hne.out 18 (by decide) e), hB⟩
                · cases ho
                  have d4 := hd ⟨4, .data⟩ (by simp) rfl
                  have d5 := hd ⟨5, .data⟩ (by simp) rfl
                  obtain rfl := K4.out d4
                  obtain rfl := K5.out d5
                  have hk0 : (0 : Int) ≤ (j : Int) := by omega
                  have hk1 : (j : Int) < (n : Int) := by omega
                  refine wpOp_step rfl (fun K hK => ?_)
                  go_simp
                  refine hK _ _ ⟨by simpa using hz, v34, v35, v36, v37, .slice (some ⟨gs, 0, none⟩) n n, .int .i64 ↑j, .pointer (some ⟨gs, j, none⟩), v41, v42, v43, v44, v45, v46, v47, v48, v49, v50, v51, v52, rfl, ?_⟩
                  exact ⟨fun e => K0.out (hne.out 0 (by decide) e), fun e => K1.out (hne.out 1 (by decide) e), fun e => K2.out (hne.out 2 (by decide) e), fun e => K3.out (hne.out 3 (by decide) e), fun e => K4.out (hne.out 4 (by decide) e), fun e => K5.out (hne.out 5 (by decide) e), fun _ => rfl, fun e => K7.out (hne.out 7 (by decide) e), fun e => K8.out (hne.out 8 (by decide) e), fun e => K9.out (hne.out 9 (by decide) e), fun e => K10.out (hne.out 10 (by decide) e), fun e => K11.out (hne.out 11 (by decide) e), fun e => K12.out (hne.out 12 (by decide) e), fun e => K13.out (hne.out 13 (by decide) e), fun e => K14.out (hne.out 14 (by decide) e), fun e => K15.out (hne.out 15 (by decide) e), fun e => K16.out (hne.out 16 (by decide) e), fun e => K17.out (hne.out 17 (by decide) e), fun e => K18.out (hne.out 18 (by decide) e), hB⟩
                · cases ho
                  have d6 := hd ⟨6, .data⟩ (by simp) rfl
                  obtain rfl := K6.out d6
                  obtain ⟨_, e0, e1, e2, e3, e4, e5, e6, e7⟩ := hOk.out wx hB
                  refine wpOp_step rfl (fun K hK => ?_)
                  go_simp
                  refine hK _ _ ⟨by simpa using hz, v34, v35, v36, v37, v38, v39, .pointer (some ⟨gs, j, none⟩), .int .i64 cj, v42, v43, v44, v45, v46, v47, v48, v49, v50, v51, v52, rfl, ?_⟩
                  exact ⟨fun e => K0.out (hne.out 0 (by decide) e), fun e => K1.out (hne.out 1 (by decide) e), fun e => K2.out (hne.out 2 (by decide) e), fun e => K3.out (hne.out 3 (by decide) e), fun e => K4.out (hne.out 4 (by decide) e), fun e => K5.out (hne.out 5 (by decide) e), fun e => K6.out (hne.out 6 (by decide) e), fun _ => rfl, fun e => K8.out (hne.out 8 (by decide) e), fun e => K9.out (hne.out 9 (by decide) e), fun e => K10.out (hne.out 10 (by decide) e), fun e => K11.out (hne.out 11 (by decide) e), fun e => K12.out (hne.out 12 (by decide) e), fun e => K13.out (hne.out 13 (by decide) e), fun e => K14.out (hne.out 14 (by decide) e), fun e => K15.out (hne.out 15 (by decide) e), fun e => K16.out (hne.out 16 (by decide) e), fun e => K17.out (hne.out 17 (by decide) e), fun e => K18.out (hne.out 18 (by decide) e), hB⟩
                · cases ho
                  refine wpOp_step rfl (fun K hK => ?_)
                  go_simp
                  refine hK _ _ ⟨by simpa using hz, v34, v35, v36, v37, v38, v39, v40, v41, .pointer (some ⟨gc, 0, none⟩), v43, v44, v45, v46, v47, v48, v49, v50, v51, v52, rfl, ?_⟩
                  exact ⟨fun e => K0.out (hne.out 0 (by decide) e), fun e => K1.out (hne.out 1 (by decide) e), fun e => K2.out (hne.out 2 (by decide) e), fun e => K3.out (hne.out 3 (by decide) e), fun e => K4.out (hne.out 4 (by decide) e), fun e => K5.out (hne.out 5 (by decide) e), fun e => K6.out (hne.out 6 (by decide) e), fun e => K7.out (hne.out 7 (by decide) e), fun _ => rfl, fun e => K9.out (hne.out 9 (by decide) e), fun e => K10.out (hne.out 10 (by decide) e), fun e => K11.out (hne.out 11 (by decide) e), fun e => K12.out (hne.out 12 (by decide) e), fun e => K13.out (hne.out 13 (by decide) e), fun e => K14.out (hne.out 14 (by decide) e), fun e => K15.out (hne.out 15 (by decide) e), fun e => K16.out (hne.out 16 (by decide) e), fun e => K17.out (hne.out 17 (by decide) e), fun e => K18.out (hne.out 18 (by decide) e), hB⟩
                · cases ho
                  have d8 := hd ⟨8, .data⟩ (by simp) rfl
                  obtain rfl := K8.out d8
                  obtain ⟨_, e0, e1, e2, e3, e4, e5, e6, e7⟩ := hOk.out wx hB
                  refine wpOp_step rfl (fun K hK => ?_)
                  go_simp
                  refine hK _ _ ⟨by simpa using hz, v34, v35, v36, v37, v38, v39, v40, v41, .pointer (some ⟨gc, 0, none⟩), .int .i64 (vn : Int), v44, v45, v46, v47, v48, v49, v50, v51, v52, rfl, ?_⟩
                  exact ⟨fun e => K0.out (hne.out 0 (by decide) e), fun e => K1.out (hne.out 1 (by decide) e), fun e => K2.out (hne.out 2 (by decide) e), fun e => K3.out (hne.out 3 (by decide) e), fun e => K4.out (hne.out 4 (by decide) e), fun e => K5.out (hne.out 5 (by decide) e), fun e => K6.out (hne.out 6 (by decide) e), fun e => K7.out (hne.out 7 (by decide) e), fun e => K8.out (hne.out 8 (by decide) e), fun _ => rfl, fun e => K10.out (hne.out 10 (by decide) e), fun e => K11.out (hne.out 11 (by decide) e), fun e => K12.out (hne.out 12 (by decide) e), fun e => K13.out (hne.out 13 (by decide) e), fun e => K14.out (hne.out 14 (by decide) e), fun e => K15.out (hne.out 15 (by decide) e), fun e => K16.out (hne.out 16 (by decide) e), fun e => K17.out (hne.out 17 (by decide) e), fun e => K18.out (hne.out 18 (by decide) e), hB⟩
                · cases ho
                  have d9 := hd ⟨9, .data⟩ (by simp) rfl
                  obtain rfl := K9.out d9
                  have hw1 : IntKind.i64.wrap ((vn : Int) + 1) = (vn : Int) + 1 := by rw [IntKind.wrap_i64]; omega
                  refine wpOp_step rfl (fun K hK => ?_)
                  go_simp
                  refine hK _ _ ⟨by simpa using hz, v34, v35, v36, v37, v38, v39, v40, v41, v42, .int .i64 (vn : Int), .int .i64 ((vn : Int) + 1), v45, v46, v47, v48, v49, v50, v51, v52, rfl, ?_⟩
                  exact ⟨fun e => K0.out (hne.out 0 (by decide) e), fun e => K1.out (hne.out 1 (by decide) e), fun e => K2.out (hne.out 2 (by decide) e), fun e => K3.out (hne.out 3 (by decide) e), fun e => K4.out (hne.out 4 (by decide) e), fun e => K5.out (hne.out 5 (by decide) e), fun e => K6.out (hne.out 6 (by decide) e), fun e => K7.out (hne.out 7 (by decide) e), fun e => K8.out (hne.out 8 (by decide) e), fun e => K9.out (hne.out 9 (by decide) e), fun _ => rfl, fun e => K11.out (hne.out 11 (by decide) e), fun e => K12.out (hne.out 12 (by decide) e), fun e => K13.out (hne.out 13 (by decide) e), fun e => K14.out (hne.out 14 (by decide) e), fun e => K15.out (hne.out 15 (by decide) e), fun e => K16.out (hne.out 16 (by decide) e), fun e => K17.out (hne.out 17 (by decide) e), fun e => K18.out (hne.out 18 (by decide) e), hB⟩
                · cases ho
                  refine wpOp_step rfl (fun K hK => ?_)
                  go_simp
                  refine hK _ _ ⟨by simpa using hz, v34, v35, v36, v37, v38, v39, v40, v41, v42, v43, v44, .slice (some ⟨g, off, none⟩) n c, v46, v47, v48, v49, v50, v51, v52, rfl, ?_⟩
                  exact ⟨fun e => K0.out (hne.out 0 (by decide) e), fun e => K1.out (hne.out 1 (by decide) e), fun e => K2.out (hne.out 2 (by decide) e), fun e => K3.out (hne.out 3 (by decide) e), fun e => K4.out (hne.out 4 (by decide) e), fun e => K5.out (hne.out 5 (by decide) e), fun e => K6.out (hne.out 6 (by decide) e), fun e => K7.out (hne.out 7 (by decide) e), fun e => K8.out (hne.out 8 (by decide) e), fun e => K9.out (hne.out 9 (by decide) e), fun e => K10.out (hne.out 10 (by decide) e), fun _ => rfl, fun e => K12.out (hne.out 12 (by decide) e), fun e => K13.out (hne.out 13 (by decide) e), fun e => K14.out (hne.out 14 (by decide) e), fun e => K15.out (hne.out 15 (by decide) e), fun e => K16.out (hne.out 16 (by decide) e), fun e => K17.out (hne.out 17 (by decide) e), fun e => K18.out (hne.out 18 (by decide) e), hB⟩
                · cases ho
                  refine wpOp_step rfl (fun K hK => ?_)
                  go_simp
                  refine hK _ _ ⟨by simpa using hz, v34, v35, v36, v37, v38, v39, v40, v41, v42, v43, v44, v45, .int .i64 ↑j, v47, v48, v49, v50, v51, v52, rfl, ?_⟩
                  exact ⟨fun e => K0.out (hne.out 0 (by decide) e), fun e => K1.out (hne.out 1 (by decide) e), fun e => K2.out (hne.out 2 (by decide) e), fun e => K3.out (hne.out 3 (by decide) e), fun e => K4.out (hne.out 4 (by decide) e), fun e => K5.out (hne.out 5 (by decide) e), fun e => K6.out (hne.out 6 (by decide) e), fun e => K7.out (hne.out 7 (by decide) e), fun e => K8.out (hne.out 8 (by decide) e), fun e => K9.out (hne.out 9 (by decide) e), fun e => K10.out (hne.out 10 (by decide) e), fun e => K11.out (hne.out 11 (by decide) e), fun _ => rfl, fun e => K13.out (hne.out 13 (by decide) e), fun e => K14.out (hne.out 14 (by decide) e), fun e => K15.out (hne.out 15 (by decide) e), fun e => K16.out (hne.out 16 (by decide) e), fun e => K17.out (hne.out 17 (by decide) e), fun e => K18.out (hne.out 18 (by decide) e), hB⟩
                · cases ho
                  have d11 := hd ⟨11, .data⟩ (by simp) rfl
                  have d12 := hd ⟨12, .data⟩ (by simp) rfl
                  obtain rfl := K11.out d11
                  obtain rfl := K12.out d12
                  have hk0 : (0 : Int) ≤ (j : Int) := by omega
                  have hk1 : (j : Int) < (n : Int) := by omega
                  refine wpOp_step rfl (fun K hK => ?_)
                  go_simp
                  refine hK _ _ ⟨by simpa using hz, v34, v35, v36, v37, v38, v39, v40, v41, v42, v43, v44, .slice (some ⟨g, off, none⟩) n c, .int .i64 ↑j, .pointer (some ⟨g, off + j * 5, none⟩), v48, v49, v50, v51, v52, rfl, ?_⟩
                  exact ⟨fun e => K0.out (hne.out 0 (by decide) e), fun e => K1.out (hne.out 1 (by decide) e), fun e => K2.out (hne.out 2 (by decide) e), fun e => K3.out (hne.out 3 (by decide) e), fun e => K4.out (hne.out 4 (by decide) e), fun e => K5.out (hne.out 5 (by decide) e), fun e => K6.out (hne.out 6 (by decide) e), fun e => K7.out (hne.out 7 (by decide) e), fun e => K8.out (hne.out 8 (by decide) e), fun e => K9.out (hne.out 9 (by decide) e), fun e => K10.out (hne.out 10 (by decide) e), fun e => K11.out (hne.out 11 (by decide) e), fun e => K12.out (hne.out 12 (by decide) e), fun _ => rfl, fun e => K14.out (hne.out 14 (by decide) e), fun e => K15.out (hne.out 15 (by decide) e), fun e => K16.out (hne.out 16 (by decide) e), fun e => K17.out (hne.out 17 (by decide) e), fun e => K18.out (hne.out 18 (by decide) e), hB⟩
                · cases ho
                  have d13 := hd ⟨13, .data⟩ (by simp) rfl
                  obtain rfl := K13.out d13
                  obtain ⟨_, e0, e1, e2, e3, e4, e5, e6, e7⟩ := hOk.out wx hB
                  refine wpOp_step rfl (fun K hK => ?_)
                  go_simp
                  refine hK _ _ ⟨by simpa using hz, v34, v35, v36, v37, v38, v39, v40, v41, v42, v43, v44, v45, v46, .pointer (some ⟨g, off + j * 5, none⟩), .agg #[.int .i64 d.v, .int .i64 d.n, .int .i64 d.a, .int .i64 d.b, .int .i64 d.c], v49, v50, v51, v52, rfl, ?_⟩
                  exact ⟨fun e => K0.out (hne.out 0 (by decide) e), fun e => K1.out (hne.out 1 (by decide) e), fun e => K2.out (hne.out 2 (by decide) e), fun e => K3.out (hne.out 3 (by decide) e), fun e => K4.out (hne.out 4 (by decide) e), fun e => K5.out (hne.out 5 (by decide) e), fun e => K6.out (hne.out 6 (by decide) e), fun e => K7.out (hne.out 7 (by decide) e), fun e => K8.out (hne.out 8 (by decide) e), fun e => K9.out (hne.out 9 (by decide) e), fun e => K10.out (hne.out 10 (by decide) e), fun e => K11.out (hne.out 11 (by decide) e), fun e => K12.out (hne.out 12 (by decide) e), fun e => K13.out (hne.out 13 (by decide) e), fun _ => rfl, fun e => K15.out (hne.out 15 (by decide) e), fun e => K16.out (hne.out 16 (by decide) e), fun e => K17.out (hne.out 17 (by decide) e), fun e => K18.out (hne.out 18 (by decide) e), hB⟩
                · cases ho
                  have d14 := hd ⟨14, .data⟩ (by simp) rfl
                  obtain rfl := K14.out d14
                  refine wpOp_step rfl (fun K hK => ?_)
                  go_simp
                  go_at_call 81
                  refine (cL.out _).mono ?_
                  rintro e w3 ⟨rfl, hb3⟩
                  refine hK _ _ ⟨by simpa using hz, v34, v35, v36, v37, v38, v39, v40, v41, v42, v43, v44, v45, v46, v47, .agg #[.int .i64 d.v, .int .i64 d.n, .int .i64 d.a, .int .i64 d.b, .int .i64 d.c], .int .i64 (ln : Int), v50, v51, v52, rfl, ?_⟩
                  exact ⟨fun e => K0.out (hne.out 0 (by decide) e), fun e => K1.out (hne.out 1 (by decide) e), fun e => K2.out (hne.out 2 (by decide) e), fun e => K3.out (hne.out 3 (by decide) e), fun e => K4.out (hne.out 4 (by decide) e), fun e => K5.out (hne.out 5 (by decide) e), fun e => K6.out (hne.out 6 (by decide) e), fun e => K7.out (hne.out 7 (by decide) e), fun e => K8.out (hne.out 8 (by decide) e), fun e => K9.out (hne.out 9 (by decide) e), fun e => K10.out (hne.out 10 (by decide) e), fun e => K11.out (hne.out 11 (by decide) e), fun e => K12.out (hne.out 12 (by decide) e), fun e => K13.out (hne.out 13 (by decide) e), fun e => K14.out (hne.out 14 (by decide) e), fun _ => rfl, fun e => K16.out (hne.out 16 (by decide) e), fun e => K17.out (hne.out 17 (by decide) e), fun e => K18.out (hne.out 18 (by decide) e), hB.trans (hb3.mono hB.size)⟩
                · cases ho
                  have d7 := hd ⟨7, .data⟩ (by simp) rfl
                  have d10 := hd ⟨10, .data⟩ (by simp) rfl
                  have d15 := hd ⟨15, .data⟩ (by simp) rfl
                  obtain rfl := K7.out d7
                  obtain rfl := K10.out d10
                  obtain rfl := K15.out d15
                  refine wpOp_step rfl (fun K hK => ?_)
                  go_simp
                  go_at_call 80
                  refine (cF.out _).mono ?_
                  rintro e w3 ⟨rfl, rfl⟩
                  refine hK _ _ ⟨by simpa using hz, v34, v35, v36, v37, v38, v39, v40, .int .i64 cj, v42, v43, .int .i64 ((vn : Int) + 1), v45, v46, v47, v48, .int .i64 (ln : Int), .int .i64 tj, v51, v52, rfl, ?_⟩
                  exact ⟨fun e => K0.out (hne.out 0 (by decide) e), fun e => K1.out (hne.out 1 (by decide) e), fun e => K2.out (hne.out 2 (by decide) e), fun e => K3.out (hne.out 3 (by decide) e), fun e => K4.out (hne.out 4 (by decide) e), fun e => K5.out (hne.out 5 (by decide) e), fun e => K6.out (hne.out 6 (by decide) e), fun e => K7.out (hne.out 7 (by decide) e), fun e => K8.out (hne.out 8 (by decide) e), fun e => K9.out (hne.out 9 (by decide) e), fun e => K10.out (hne.out 10 (by decide) e), fun e => K11.out (hne.out 11 (by decide) e), fun e => K12.out (hne.out 12 (by decide) e), fun e => K13.out (hne.out 13 (by decide) e), fun e => K14.out (hne.out 14 (by decide) e), fun e => K15.out (hne.out 15 (by decide) e), fun _ => rfl, fun e => K17.out (hne.out 17 (by decide) e), fun e => K18.out (hne.out 18 (by decide) e), hB⟩
                · cases ho
                  have d3 := hd ⟨3, .data⟩ (by simp) rfl
                  have d16 := hd ⟨16, .data⟩ (by simp) rfl
                  obtain rfl := K3.out d3
                  obtain rfl := K16.out d16
                  have hw1 : IntKind.i64.wrap (p + tj) = p + tj := by rw [IntKind.wrap_i64]; omega
                  refine wpOp_step rfl (fun K hK => ?_)
                  go_simp
                  refine hK _ _ ⟨by simpa using hz, v34, v35, v36, .int .i64 p, v38, v39, v40, v41, v42, v43, v44, v45, v46, v47, v48, v49, .int .i64 tj, .int .i64 (p + tj), v52, rfl, ?_⟩
                  exact ⟨fun e => K0.out (hne.out 0 (by decide) e), fun e => K1.out (hne.out 1 (by decide) e), fun e => K2.out (hne.out 2 (by decide) e), fun e => K3.out (hne.out 3 (by decide) e), fun e => K4.out (hne.out 4 (by decide) e), fun e => K5.out (hne.out 5 (by decide) e), fun e => K6.out (hne.out 6 (by decide) e), fun e => K7.out (hne.out 7 (by decide) e), fun e => K8.out (hne.out 8 (by decide) e), fun e => K9.out (hne.out 9 (by decide) e), fun e => K10.out (hne.out 10 (by decide) e), fun e => K11.out (hne.out 11 (by decide) e), fun e => K12.out (hne.out 12 (by decide) e), fun e => K13.out (hne.out 13 (by decide) e), fun e => K14.out (hne.out 14 (by decide) e), fun e => K15.out (hne.out 15 (by decide) e), fun e => K16.out (hne.out 16 (by decide) e), fun _ => rfl, fun e => K18.out (hne.out 18 (by decide) e), hB⟩
                · cases ho
                  have d0 := hd ⟨0, .data⟩ (by simp) rfl
                  have d1 := hd ⟨1, .data⟩ (by simp) rfl
                  obtain rfl := K0.out d0
                  obtain rfl := K1.out d1
                  have hk0 : (0 : Int) ≤ (k : Int) := by omega
                  have hk1 : (k : Int) < (n : Int) := by omega
                  refine wpOp_step rfl (fun K hK => ?_)
                  go_simp
                  refine hK _ _ ⟨by simpa using hz, .slice (some ⟨gs, 0, none⟩) n n, .int .i64 ↑k, v36, v37, v38, v39, v40, v41, v42, v43, v44, v45, v46, v47, v48, v49, v50, v51, .pointer (some ⟨gs, k, none⟩), rfl, ?_⟩
                  exact ⟨fun e => K0.out (hne.out 0 (by decide) e), fun e => K1.out (hne.out 1 (by decide) e), fun e => K2.out (hne.out 2 (by decide) e), fun e => K3.out (hne.out 3 (by decide) e), fun e => K4.out (hne.out 4 (by decide) e), fun e => K5.out (hne.out 5 (by decide) e), fun e => K6.out (hne.out 6 (by decide) e), fun e => K7.out (hne.out 7 (by decide) e), fun e => K8.out (hne.out 8 (by decide) e), fun e => K9.out (hne.out 9 (by decide) e), fun e => K10.out (hne.out 10 (by decide) e), fun e => K11.out (hne.out 11 (by decide) e), fun e => K12.out (hne.out 12 (by decide) e), fun e => K13.out (hne.out 13 (by decide) e), fun e => K14.out (hne.out 14 (by decide) e), fun e => K15.out (hne.out 15 (by decide) e), fun e => K16.out (hne.out 16 (by decide) e), fun e => K17.out (hne.out 17 (by decide) e), fun _ => rfl, hB⟩
              case hl =>
                rintro listed aq wx ⟨hz, v34, v35, v36, v37, v38, v39, v40, v41, v42, v43, v44, v45, v46, v47, v48, v49, v50, v51, v52, rfl, hII⟩ hall
                have K0 := Lib.hid hII.1
                have K1 := Lib.hid hII.2.1
                have K2 := Lib.hid hII.2.2.1
                have K3 := Lib.hid hII.2.2.2.1
                have K4 := Lib.hid hII.2.2.2.2.1
                have K5 := Lib.hid hII.2.2.2.2.2.1
                have K6 := Lib.hid hII.2.2.2.2.2.2.1
                have K7 := Lib.hid hII.2.2.2.2.2.2.2.1
                have K8 := Lib.hid hII.2.2.2.2.2.2.2.2.1
                have K9 := Lib.hid hII.2.2.2.2.2.2.2.2.2.1
                have K10 := Lib.hid hII.2.2.2.2.2.2.2.2.2.2.1
                have K11 := Lib.hid hII.2.2.2.2.2.2.2.2.2.2.2.1
                have K12 := Lib.hid hII.2.2.2.2.2.2.2.2.2.2.2.2.1
                have K13 := Lib.hid hII.2.2.2.2.2.2.2.2.2.2.2.2.2.1
                have K14 := Lib.hid hII.2.2.2.2.2.2.2.2.2.2.2.2.2.2.1
                have K15 := Lib.hid hII.2.2.2.2.2.2.2.2.2.2.2.2.2.2.2.1
                have K16 := Lib.hid hII.2.2.2.2.2.2.2.2.2.2.2.2.2.2.2.2.1
                have K17 := Lib.hid hII.2.2.2.2.2.2.2.2.2.2.2.2.2.2.2.2.2.1
                have K18 := Lib.hid hII.2.2.2.2.2.2.2.2.2.2.2.2.2.2.2.2.2.2.1
                have hB : Below wq.heap.size wq wx := hII.2.2.2.2.2.2.2.2.2.2.2.2.2.2.2.2.2.2.2
                clear hII
                obtain rfl := K0.out (hall 0 (by decide))
                obtain rfl := K1.out (hall 1 (by decide))
                obtain rfl := K2.out (hall 2 (by decide))
                obtain rfl := K3.out (hall 3 (by decide))
                obtain rfl := K4.out (hall 4 (by decide))
                obtain rfl := K5.out (hall 5 (by decide))
                obtain rfl := K6.out (hall 6 (by decide))
                obtain rfl := K7.out (hall 7 (by decide))
                obtain rfl := K8.out (hall 8 (by decide))
                obtain rfl := K9.out (hall 9 (by decide))
                obtain rfl := K10.out (hall 10 (by decide))
                obtain rfl := K11.out (hall 11 (by decide))
                obtain rfl := K12.out (hall 12 (by decide))
                obtain rfl := K13.out (hall 13 (by decide))
                obtain rfl := K14.out (hall 14 (by decide))
                obtain rfl := K15.out (hall 15 (by decide))
                obtain rfl := K16.out (hall 16 (by decide))
                obtain rfl := K17.out (hall 17 (by decide))
                obtain rfl := K18.out (hall 18 (by decide))
                clear hall K0 K1 K2 K3 K4 K5 K6 K7 K8 K9 K10 K11 K12 K13 K14 K15 K16 K17 K18
                have e0 := (hOk.out wx hB).2.1
                have f0 := (hHq.out.kept hB).frozen k
                refine wpOp_step rfl (fun K0 hK0 => ?_)
                go_simp
                refine hK0 _ _ ?_
                clear hK0
                have hN := Lib.hid ((hHq.out.kept hB).put k (.int .i64 (p + tj)))
                have hWn := Lib.hid ((hWq.out.kept hB).far (p := ⟨gs, k, none⟩) hne (.int .i64 (p + tj)))
                have hBn := Lib.hid ((hBq.out.trans (hB.mono hzq)).setCell (p := ⟨gs, k, none⟩) hz1 (.int .i64 (p + tj)))
                clear hB
                go_wp2_with fail
                exact ⟨⟨_, _, hN.out, hFq.out.set hlt _, hBn.out, hWn.out, .inr (.inl ⟨rfl, hP2.out⟩)⟩, by simp [intOf]⟩
            · have hp0 : 0 ≤ p ∧ p ≤ 100000000000 := by omega
              have hP := Lib.hid hp
              clear hp
              have hT' : tmS ds vn jb = csum ds ((jb : Int)).toNat * 3 ^ ((gt ds ((jb : Int)).toNat).lev - vn - 1).toNat := rfl
              obtain ⟨hj0, hj1, hj2⟩ := hKb
              generalize jb = j at *
              have hjk : j < k := by omega
              have hjn : j < n := by omega
              have hlb := lev_bd (up_of hO.out) (i := j) (by rw [hLn.out]; omega)
              have hcb := csum_bd hO.out (i := j) (by rw [hLn.out]; omega)
              rw [Int.toNat_natCast] at hT'
              obtain ⟨ln, hln⟩ : ∃ ln : Nat, (gt ds j).lev = ln := ⟨_, (Int.toNat_of_nonneg hlb.1).symm⟩
              obtain ⟨g', off', eA, hg', hat⟩ := (hH.out.below hBq.out).gt_ (k := j) (by omega)
              injection eA with eA
              injection eA with eA1 eA2 _
              subst eA1 eA2
              have cL := Lib.hid (fun wx => levelOf_any (gt ds j) wx)
              have hc7 : cq[j]? = some (.int .i64 (csum ds j)) := hfq.2.1 j hjk hjn
              have hck : cq[k]? = some (.int .i64 p) := hfq.2.2.1 hlt
              rw [hln] at cL hT' hj2
              have hln4 : ln ≤ 4 := by omega
              have hvl : vn + 1 ≤ ln := by omega
              rw [show ((ln : Int) - vn - 1).toNat = ln - (vn + 1) by omega] at hT'
              generalize htj : tmS ds (vn : Int) (j : Int) = tj at *
              have cF := Lib.hid (fun wx => sumFrom_any (csum ds j) (vn + 1) ln wx hvl hln4 hcb.1 (by rw [← hT']; omega))
              rw [← hT'] at cF
              have hP2 := Lib.hid (show p + tj = 0 + tmS ds vn ja + tj by rw [hP.out])
              generalize csum ds j = cj at *
              generalize gt ds j = d at *
              obtain ⟨c0, c1, c2, c3, c4⟩ := hat.open_
              have hgz : g < wq.heap.size := by omega
              have hOk := Lib.hid (fun (wx : World) (hx : Below wq.heap.size wq wx) => (show Below wq.heap.size wq wx ∧ wx.cell? ⟨gs, k, none⟩ = some (.int .i64 p) ∧ wx.cell? ⟨gs, j, none⟩ = some (.int .i64 cj) ∧ wx.cell? ⟨gc, 0, none⟩ = some (.int .i64 (vn : Int)) ∧ wx.cell? ⟨g, off + j * 5, none⟩ = some (.int .i64 d.v) ∧ wx.cell? ⟨g, off + j * 5 + 1, none⟩ = some (.int .i64 d.n) ∧ wx.cell? ⟨g, off + j * 5 + 2, none⟩ = some (.int .i64 d.a) ∧ wx.cell? ⟨g, off + j * 5 + 3, none⟩ = some (.int .i64 d.b) ∧ wx.cell? ⟨g, off + j * 5 + 4, none⟩ = some (.int .i64 d.c) from ⟨hx, ((hHq.out.kept hx).cell k).trans hck, ((hHq.out.kept hx).cell j).trans hc7, (hWq.out.kept hx).cell 0, (hx.cell (p := ⟨g, off + j * 5, none⟩) (by exact hgz)).trans c0, (hx.cell (p := ⟨g, off + j * 5 + 1, none⟩) (by exact hgz)).trans c1, (hx.cell (p := ⟨g, off + j * 5 + 2, none⟩) (by exact hgz)).trans c2, (hx.cell (p := ⟨g, off + j * 5 + 3, none⟩) (by exact hgz)).trans c3, (hx.cell (p := ⟨g, off + j * 5 + 4, none⟩) (by exact hgz)).trans c4⟩))
              have htb : 0 ≤ tj ∧ tj ≤ 27000000000 := hTbb
              have hPP := Lib.hid htj
              clear hat hc7 hck hT' hlb hcb c0 c1 c2 c3 c4 hj0 hj1 hj2 hv3 hln htj hfq hv hTa hTbb hTc
              go_wp2_with fail
              clear hhq hbq hwq
              refine wp_region_any (by kernel_rfl) ?_
              change wpAny _ _ _ _ _ _ _ (World.drew _)
              refine wpAny_last (n := 19) (I := fun listed aq wx => listed.size = 20 ∧ ∃ v34 v35 v36 v37 v38 v39 v40 v41 v42 v43 v44 v45 v46 v47 v48 v49 v50 v51 v52 : Value, aq = { tmps := #[.slice (some ⟨g, off, none⟩) n c, undef, .slice none 0 0, .slice (some ⟨gs, 0, none⟩) n n, .int .i64 ↑k, .pointer (some ⟨gc, 0, none⟩), undef, .int .i64 ↑j, .slice (some ⟨g, off, none⟩) n c, .bool true, .bool false, .slice (some ⟨g, off, none⟩) n c, .int .i64 ↑n, .slice (some ⟨gs, 0, none⟩) n n, .slice (some ⟨g, off, none⟩) n c, .int .i64 ↑n, .int .i64 ↑k, .bool true, .int .i64 ↑k, .pointer (some ⟨g, off + k * 5, none⟩), .agg #[.int .i64 ↑vn, .int .i64 sn, .int .i64 ↑ja, .int .i64 ↑j, .int .i64 ↑jc], .pointer (some ⟨gc, 0, none⟩), .int .i64 ↑vn, .bool false, u24, u25, u26, u27, u28, .pointer (some ⟨gc, 2, none⟩), .agg #[.int .i64 ↑ja, .int .i64 ↑j, .int .i64 ↑jc], .int .i64 1, .bool true, .int .i64 ↑j, v34, v35, v36, v37, v38, v39, v40, v41, v42, v43, v44, v45, v46, v47, v48, v49, v50, v51, v52, u53, u54, undef], defers := [] } ∧ (listed.getD 0 false = true → v34 = .slice (some ⟨gs, 0, none⟩) n n) ∧ (listed.getD 1 false = true → v35 = .int .i64 ↑k) ∧ (listed.getD 2 false = true → v36 = .pointer (some ⟨gs, k, none⟩)) ∧ (listed.getD 3 false = true → v37 = .int .i64 p) ∧ (listed.getD 4 false = true → v38 = .slice (some ⟨gs, 0, none⟩) n n) ∧ (listed.getD 5 false = true → v39 = .int .i64 ↑j) ∧ (listed.getD 6 false = true → v40 = .pointer (some ⟨gs, j, none⟩)) ∧ (listed.getD 7 false = true → v41 = .int .i64 cj) ∧ (listed.getD 8 false = true → v42 = .pointer (some ⟨gc, 0, none⟩)) ∧ (listed.getD 9 false = true → v43 = .int .i64 (vn : Int)) ∧ (listed.getD 10 false = true → v44 = .int .i64 ((vn : Int) + 1)) ∧ (listed.getD 11 false = true → v45 = .slice (some ⟨g, off, none⟩) n c) ∧ (listed.getD 12 false = true → v46 = .int .i64 ↑j) ∧ (listed.getD 13 false = true → v47 = .pointer (some ⟨g, off + j * 5, none⟩)) ∧ (listed.getD 14 false = true → v48 = .agg #[.int .i64 d.v, .int .i64 d.n, .int .i64 d.a, .int .i64 d.b, .int .i64 d.c]) ∧ (listed.getD 15 false = true → v49 = .int .i64 (ln : Int)) ∧ (listed.getD 16 false = true → v50 = .int .i64 tj) ∧ (listed.getD 17 false = true → v51 = .int .i64 (p + tj)) ∧ (listed.getD 18 false = true → v52 = .pointer (some ⟨gs, k, none⟩)) ∧ Below wq.heap.size wq wx) rfl (by kernel_rfl) (by kernel_rfl) ?hs ?hl _ _ _ ?st rfl (by decide) _ (by decide)
              case st =>
                refine ⟨rfl, u34, u35, u36, u37, u38, u39, u40, u41, u42, u43, u44, u45, u46, u47, u48, u49, u50, u51, u52, rfl, ?_, ?_, ?_, ?_, ?_, ?_, ?_, ?_, ?_, ?_, ?_, ?_, ?_, ?_, ?_, ?_, ?_, ?_, ?_, (Below.refl _ _).drew⟩ <;> (intro e; exact absurd e (by decide))
              case hs =>
                rintro listed aq wx ⟨hz, v34, v35, v36, v37, v38, v39, v40, v41, v42, v43, v44, v45, v46, v47, v48, v49, v50, v51, v52, rfl, hII⟩ i hin hi
                obtain ⟨h0, o, ho, hd⟩ := mem_ready.1 hi
                have K0 := Lib.hid hII.1
                have K1 := Lib.hid hII.2.1
                have K2 := Lib.hid hII.2.2.1
                have K3 := Lib.hid hII.2.2.2.1
                have K4 := Lib.hid hII.2.2.2.2.1
                have K5 := Lib.hid hII.2.2.2.2.2.1
                have K6 := Lib.hid hII.2.2.2.2.2.2.1
                have K7 := Lib.hid hII.2.2.2.2.2.2.2.1
                have K8 := Lib.hid hII.2.2.2.2.2.2.2.2.1
                have K9 := Lib.hid hII.2.2.2.2.2.2.2.2.2.1
                have K10 := Lib.hid hII.2.2.2.2.2.2.2.2.2.2.1
                have K11 := Lib.hid hII.2.2.2.2.2.2.2.2.2.2.2.1
                have K12 := Lib.hid hII.2.2.2.2.2.2.2.2.2.2.2.2.1
                have K13 := Lib.hid hII.2.2.2.2.2.2.2.2.2.2.2.2.2.1
                have K14 := Lib.hid hII.2.2.2.2.2.2.2.2.2.2.2.2.2.2.1
                have K15 := Lib.hid hII.2.2.2.2.2.2.2.2.2.2.2.2.2.2.2.1
                have K16 := Lib.hid hII.2.2.2.2.2.2.2.2.2.2.2.2.2.2.2.2.1
                have K17 := Lib.hid hII.2.2.2.2.2.2.2.2.2.2.2.2.2.2.2.2.2.1
                have K18 := Lib.hid hII.2.2.2.2.2.2.2.2.2.2.2.2.2.2.2.2.2.2.1
                have hB : Below wq.heap.size wq wx := hII.2.2.2.2.2.2.2.2.2.2.2.2.2.2.2.2.2.2.2
                have hne := Lib.hid (fun k (hk : i ≠ k) => @listed_ne listed i k hk)
                have h0f : listed.getD i false = false := by rw [Array.getD_eq_getD_getElem?, getD_false h0]; rfl
                clear hII hi h0
                rcases (by omega : i = 0 ∨ i = 1 ∨ i = 2 ∨ i = 3 ∨ i = 4 ∨ i = 5 ∨ i = 6 ∨ i = 7 ∨ i = 8 ∨ i = 9 ∨ i = 10 ∨ i = 11 ∨ i = 12 ∨ i = 13 ∨ i = 14 ∨ i = 15 ∨ i = 16 ∨ i = 17 ∨ i = 18) with rfl | rfl | rfl | rfl | rfl | rfl | rfl | rfl | rfl | rfl | rfl | rfl | rfl | rfl | rfl | rfl | rfl | rfl | rfl
                · cases ho
                  refine wpOp_step rfl (fun K hK => ?_)
                  go_simp
                  refine hK _ _ ⟨by simpa using hz, .slice (some ⟨gs, 0, none⟩) n n, v35, v36, v37, v38, v39, v40, v41, v42, v43, v44, v45, v46, v47, v48, v49, v50, v51, v52, rfl, ?_⟩
                  exact ⟨fun _ => rfl, fun e => K1.out (hne.out 1 (by decide) e), fun e => K2.out (hne.out 2 (by decide) e), fun e => K3.out (hne.out 3 (by decide) e), fun e => K4.out (hne.out 4 (by decide) e), fun e => K5.out (hne.out 5 (by decide) e), fun e => K6.out (hne.out 6 (by decide) e), fun e => K7.out (hne.out 7 (by decide) e), fun e => K8.out (hne.out 8 (by decide) e), fun e => K9.out (hne.out 9 (by decide) e), fun e => K10.out (hne.out 10 (by decide) e), fun e => K11.out (hne.out 11 (by decide) e), fun e => K12.out (hne.out 12 (by decide) e), fun e => K13.out (hne.out 13 (by decide) e), fun e => K14.out (hne.out 14 (by decide) e), fun e => K15.out (hne.out 15 (by decide) e), fun e => K16.out (hne.out 16 (by decide) e), fun e => K17.out (hne.out 17 (by decide) e), fun e => K18.out (hne.out 18 (by decide) e), hB⟩
                · cases ho
                  refine wpOp_step rfl (fun K hK => ?_)
                  go_simp
                  refine hK _ _ ⟨by simpa using hz, v34, .int .i64 ↑k, v36, v37, v38, v39, v40, v41, v42, v43, v44, v45, v46, v47, v48, v49, v50, v51, v52, rfl, ?_⟩
                  exact ⟨fun e => K0.out (hne.out 0 (by decide) e), fun _ => rfl, fun e => K2.out (hne.out 2 (by decide) e), fun e => K3.out (hne.out 3 (by decide) e), fun e => K4.out (hne.out 4 (by decide) e), fun e => K5.out (hne.out 5 (by decide) e), fun e => K6.out (hne.out 6 (by decide) e), fun e => K7.out (hne.out 7 (by decide) e), fun e => K8.out (hne.out 8 (by decide) e), fun e => K9.out (hne.out 9 (by decide) e), fun e => K10.out (hne.out 10 (by decide) e), fun e => K11.out (hne.out 11 (by decide) e), fun e => K12.out (hne.out 12 (by decide) e), fun e => K13.out (hne.out 13 (by decide) e), fun e => K14.out (hne.out 14 (by decide) e), fun e => K15.out (hne.out 15 (by decide) e), fun e => K16.out (hne.out 16 (by decide) e), fun e => K17.out (hne.out 17 (by decide) e), fun e => K18.out (hne.out 18 (by decide) e), hB⟩
                · cases ho
                  have d0 := hd ⟨0, .data⟩ (by simp) rfl
                  have d1 := hd ⟨1, .data⟩ (by simp) rfl
                  obtain rfl := K0.out d0
                  obtain rfl := K1.out d1
                  have hk0 : (0 : Int) ≤ (k : Int) := by omega
                  have hk1 : (k : Int) < (n : Int) := by omega
                  refine wpOp_step rfl (fun K hK => ?_)
                  go_simp
                  refine hK _ _ ⟨by simpa using hz, .slice (some ⟨gs, 0, none⟩) n n, .int .i64 ↑k, .pointer (some ⟨gs, k, none⟩), v37, v38, v39, v40, v41, v42, v43, v44, v45, v46, v47, v48, v49, v50, v51, v52, rfl, ?_⟩
                  exact ⟨fun e => K0.out (hne.out 0 (by decide) e), fun e => K1.out (hne.out 1 (by decide) e), fun _ => rfl, fun e => K3.out (hne.out 3 (by decide) e), fun e => K4.out (hne.out 4 (by decide) e), fun e => K5.out (hne.out 5 (by decide) e), fun e => K6.out (hne.out 6 (by decide) e), fun e => K7.out (hne.out 7 (by decide) e), fun e => K8.out (hne.out 8 (by decide) e), fun e => K9.out (hne.out 9 (by decide) e), fun e => K10.out (hne.out 10 (by decide) e), fun e => K11.out (hne.out 11 (by decide) e), fun e => K12.out (hne.out 12 (by decide) e), fun e => K13.out (hne.out 13 (by decide) e), fun e => K14.out (hne.out 14 (by decide) e), fun e => K15.out (hne.out 15 (by decide) e), fun e => K16.out (hne.out 16 (by decide) e), fun e => K17.out (hne.out 17 (by decide) e), fun e => K18.out (hne.out 18 (by decide) e), hB⟩
                · cases ho
                  have d2 := hd ⟨2, .data⟩ (by simp) rfl
                  obtain rfl := K2.out d2
                  obtain ⟨_, e0, e1, e2, e3, e4, e5, e6, e7⟩ := hOk.out wx hB
                  refine wpOp_step rfl (fun K hK => ?_)
                  go_simp
                  refine hK _ _ ⟨by simpa using hz, v34, v35, .pointer (some ⟨gs, k, none⟩), .int .i64 p, v38, v39, v40, v41, v42, v43, v44, v45, v46, v47, v48, v49, v50, v51, v52, rfl, ?_⟩
                  exact ⟨fun e => K0.out (hne.out 0 (by decide) e), fun e => K1.out (hne.out 1 (by decide) e), fun e => K2.out (hne.out 2 (by decide) e), fun _ => rfl, fun e => K4.out (hne.out 4 (by decide) e), fun e => K5.out (hne.out 5 (by decide) e), fun e => K6.out (hne.out 6 (by decide) e), fun e => K7.out (hne.out 7 (by decide) e), fun e => K8.out (hne.out 8 (by decide) e), fun e => K9.out (hne.out 9 (by decide) e), fun e => K10.out (hne.out 10 (by decide) e), fun e => K11.out (hne.out 11 (by decide) e), fun e => K12.out (hne.out 12 (by decide) e), fun e => K13.out (hne.out 13 (by decide) e), fun e => K14.out (hne.out 14 (by decide) e), fun e => K15.out (hne.out 15 (by decide) e), fun e => K16.out (hne.out 16 (by decide) e), fun e => K17.out (hne.out 17 (by decide) e), fun e => K18.out (hne.out 18 (by decide) e), hB⟩
                · cases ho
                  refine wpOp_step rfl (fun K hK => ?_)
                  go_simp
                  refine hK _ _ ⟨by simpa using hz, v34, v35, v36, v37, .slice (some ⟨gs, 0, none⟩) n n, v39, v40, v41, v42, v43, v44, v45, v46, v47, v48, v49, v50, v51, v52, rfl, ?_⟩
                  exact ⟨fun e => K0.out (hne.out 0 (by decide) e), fun e => K1.out (hne.out 1 (by decide) e), fun e => K2.out (hne.out 2 (by decide) e), fun e => K3.out (hne.out 3 (by decide) e), fun _ => rfl, fun e => K5.out (hne.out 5 (by decide) e), fun e => K6.out (hne.out 6 (by decide) e), fun e => K7.out (hne.out 7 (by decide) e), fun e => K8.out (hne.out 8 (by decide) e), fun e => K9.out (hne.out 9 (by decide) e), fun e => K10.out (hne.out 10 (by decide) e), fun e => K11.out (hne.out 11 (by decide) e), fun e => K12.out (hne.out 12 (by decide) e), fun e => K13.out (hne.out 13 (by decide) e), fun e => K14.out (hne.out 14 (by decide) e), fun e => K15.out (hne.out 15 (by decide) e), fun e => K16.out (hne.out 16 (by decide) e), fun e => K17.out (hne.out 17 (by decide) e), fun e => K18.out (hne.out 18 (by decide) e), hB⟩
                · cases ho
                  refine wpOp_step rfl (fun K hK => ?_)
                  go_simp
                  refine hK _ _ ⟨by simpa using hz, v34, v35, v36, v37, v38, .int .i64 ↑j, v40, v41, v42, v43, v44, v45, v46, v47, v48, v49, v50, v51, v52, rfl, ?_⟩
                  exact ⟨fun e => K0.out (hne.out 0 (by decide) e), fun e => K1.out (hne.out 1 (by decide) e), fun e => K2.out (hne.out 2 (by decide) e), fun e => K3.out (hne.out 3 (by decide) e), fun e => K4.out (hne.out 4 (by decide) e), fun _ => rfl, fun e => K6.out (hne.out 6 (by decide) e), fun e => K7.out (hne.out 7 (by decide) e), fun e => K8.out (hne.out 8 (by decide) e), fun e => K9.out (hne.out 9 (by decide) e), fun e => K10.out (hne.out 10 (by decide) e), fun e => K11.out (hne.out 11 (by decide) e), fun e => K12.out (hne.out 12 (by decide) e), fun e => K13.out (hne.out 13 (by decide) e), fun e => K14.out (hne.out 14 (by decide) e), fun e => K15.out (hne.out 15 (by decide) e), fun e => K16.out (hne.out 16 (by decide) e), fun e => K17.out (hne.out 17 (by decide) e), fun e => K18.out (hne.out 18 (by decide) e), hB⟩
                · cases ho
                  have d4 := hd ⟨4, .data⟩ (by simp) rfl
                  have d5 := hd ⟨5, .data⟩ (by simp) rfl
                  obtain rfl := K4.out d4
                  obtain rfl := K5.out d5
                  have hk0 : (0 : Int) ≤ (j : Int) := by omega
                  have hk1 : (j : Int) < (n : Int) := by omega
                  refine wpOp_step rfl (fun K hK => ?_)
                  go_simp
                  refine hK _ _ ⟨by simpa using hz, v34, v35, v36, v37, .slice (some ⟨gs, 0, none⟩) n n, .int .i64 ↑j, .pointer (some ⟨gs, j, none⟩), v41, v42, v43, v44, v45, v46, v47, v48, v49, v50, v51, v52, rfl, ?_⟩
                  exact ⟨fun e => K0.out (hne.out 0 (by decide) e), fun e => K1.out (hne.out 1 (by decide) e), fun e => K2.out (hne.out 2 (by decide) e), fun e => K3.out (hne.out 3 (by decide) e), fun e => K4.out (hne.out 4 (by decide) e), fun e => K5.out (hne.out 5 (by decide) e), fun _ => rfl, fun e => K7.out (hne.out 7 (by decide) e), fun e => K8.out (hne.out 8 (by decide) e), fun e => K9.out (hne.out 9 (by decide) e), fun e => K10.out (hne.out 10 (by decide) e), fun e => K11.out (hne.out 11 (by decide) e), fun e => K12.out (hne.out 12 (by decide) e), fun e => K13.out (hne.out 13 (by decide) e), fun e => K14.out (hne.out 14 (by decide) e), fun e => K15.out (hne.out 15 (by decide) e), fun e => K16.out (hne.out 16 (by decide) e), fun e => K17.out (hne.out 17 (by decide) e), fun e => K18.out (hne.out 18 (by decide) e), hB⟩
                · cases ho
                  have d6 := hd ⟨6, .data⟩ (by simp) rfl
                  obtain rfl := K6.out d6
                  obtain ⟨_, e0, e1, e2, e3, e4, e5, e6, e7⟩ := hOk.out wx hB
                  refine wpOp_step rfl (fun K hK => ?_)
                  go_simp
                  refine hK _ _ ⟨by simpa using hz, v34, v35, v36, v37, v38, v39, .pointer (some ⟨gs, j, none⟩), .int .i64 cj, v42, v43, v44, v45, v46, v47, v48, v49, v50, v51, v52, rfl, ?_⟩
                  exact ⟨fun e => K0.out (hne.out 0 (by decide) e), fun e => K1.out (hne.out 1 (by decide) e), fun e => K2.out (hne.out 2 (by decide) e), fun e => K3.out (hne.out 3 (by decide) e), fun e => K4.out (hne.out 4 (by decide) e), fun e => K5.out (hne.out 5 (by decide) e), fun e => K6.out (hne.out 6 (by decide) e), fun _ => rfl, fun e => K8.out (hne.out 8 (by decide) e), fun e => K9.out (hne.out 9 (by decide) e), fun e => K10.out (hne.out 10 (by decide) e), fun e => K11.out (hne.out 11 (by decide) e), fun e => K12.out (hne.out 12 (by decide) e), fun e => K13.out (hne.out 13 (by decide) e), fun e => K14.out (hne.out 14 (by decide) e), fun e => K15.out (hne.out 15 (by decide) e), fun e => K16.out (hne.out 16 (by decide) e), fun e => K17.out (hne.out 17 (by decide) e), fun e => K18.out (hne.out 18 (by decide) e), hB⟩
                · cases ho
                  refine wpOp_step rfl (fun K hK => ?_)
                  go_simp
                  refine hK _ _ ⟨by simpa using hz, v34, v35, v36, v37, v38, v39, v40, v41, .pointer (some ⟨gc, 0, none⟩), v43, v44, v45, v46, v47, v48, v49, v50, v51, v52, rfl, ?_⟩
                  exact ⟨fun e => K0.out (hne.out 0 (by decide) e), fun e => K1.out (hne.out 1 (by decide) e), fun e => K2.out (hne.out 2 (by decide) e), fun e => K3.out (hne.out 3 (by decide) e), fun e => K4.out (hne.out 4 (by decide) e), fun e => K5.out (hne.out 5 (by decide) e), fun e => K6.out (hne.out 6 (by decide) e), fun e => K7.out (hne.out 7 (by decide) e), fun _ => rfl, fun e => K9.out (hne.out 9 (by decide) e), fun e => K10.out (hne.out 10 (by decide) e), fun e => K11.out (hne.out 11 (by decide) e), fun e => K12.out (hne.out 12 (by decide) e), fun e => K13.out (hne.out 13 (by decide) e), fun e => K14.out (hne.out 14 (by decide) e), fun e => K15.out (hne.out 15 (by decide) e), fun e => K16.out (hne.out 16 (by decide) e), fun e => K17.out (hne.out 17 (by decide) e), fun e => K18.out (hne.out 18 (by decide) e), hB⟩
                · cases ho
                  have d8 := hd ⟨8, .data⟩ (by simp) rfl
                  obtain rfl := K8.out d8
                  obtain ⟨_, e0, e1, e2, e3, e4, e5, e6, e7⟩ := hOk.out wx hB
                  refine wpOp_step rfl (fun K hK => ?_)
                  go_simp
                  refine hK _ _ ⟨by simpa using hz, v34, v35, v36, v37, v38, v39, v40, v41, .pointer (some ⟨gc, 0, none⟩), .int .i64 (vn : Int), v44, v45, v46, v47, v48, v49, v50, v51, v52, rfl, ?_⟩
                  exact ⟨fun e => K0.out (hne.out 0 (by decide) e), fun e => K1.out (hne.out 1 (by decide) e), fun e => K2.out (hne.out 2 (by decide) e), fun e => K3.out (hne.out 3 (by decide) e), fun e => K4.out (hne.out 4 (by decide) e), fun e => K5.out (hne.out 5 (by decide) e), fun e => K6.out (hne.out 6 (by decide) e), fun e => K7.out (hne.out 7 (by decide) e), fun e => K8.out (hne.out 8 (by decide) e), fun _ => rfl, fun e => K10.out (hne.out 10 (by decide) e), fun e => K11.out (hne.out 11 (by decide) e), fun e => K12.out (hne.out 12 (by decide) e), fun e => K13.out (hne.out 13 (by decide) e), fun e => K14.out (hne.out 14 (by decide) e), fun e => K15.out (hne.out 15 (by decide) e), fun e => K16.out (hne.out 16 (by decide) e), fun e => K17.out (hne.out 17 (by decide) e), fun e => K18.out (hne.out 18 (by decide) e), hB⟩
                · cases ho
                  have d9 := hd ⟨9, .data⟩ (by simp) rfl
                  obtain rfl := K9.out d9
                  have hw1 : IntKind.i64.wrap ((vn : Int) + 1) = (vn : Int) + 1 := by rw [IntKind.wrap_i64]; omega
                  refine wpOp_step rfl (fun K hK => ?_)
                  go_simp
                  refine hK _ _ ⟨by simpa using hz, v34, v35, v36, v37, v38, v39, v40, v41, v42, .int .i64 (vn : Int), .int .i64 ((vn : Int) + 1), v45, v46, v47, v48, v49, v50, v51, v52, rfl, ?_⟩
                  exact ⟨fun e => K0.out (hne.out 0 (by decide) e), fun e => K1.out (hne.out 1 (by decide) e), fun e => K2.out (hne.out 2 (by decide) e), fun e => K3.out (hne.out 3 (by decide) e), fun e => K4.out (hne.out 4 (by decide) e), fun e => K5.out (hne.out 5 (by decide) e), fun e => K6.out (hne.out 6 (by decide) e), fun e => K7.out (hne.out 7 (by decide) e), fun e => K8.out (hne.out 8 (by decide) e), fun e => K9.out (hne.out 9 (by decide) e), fun _ => rfl, fun e => K11.out (hne.out 11 (by decide) e), fun e => K12.out (hne.out 12 (by decide) e), fun e => K13.out (hne.out 13 (by decide) e), fun e => K14.out (hne.out 14 (by decide) e), fun e => K15.out (hne.out 15 (by decide) e), fun e => K16.out (hne.out 16 (by decide) e), fun e => K17.out (hne.out 17 (by decide) e), fun e => K18.out (hne.out 18 (by decide) e), hB⟩
                · cases ho
                  refine wpOp_step rfl (fun K hK => ?_)
                  go_simp
                  refine hK _ _ ⟨by simpa using hz, v34, v35, v36, v37, v38, v39, v40, v41, v42, v43, v44, .slice (some ⟨g, off, none⟩) n c, v46, v47, v48, v49, v50, v51, v52, rfl, ?_⟩
                  exact ⟨fun e => K0.out (hne.out 0 (by decide) e), fun e => K1.out (hne.out 1 (by decide) e), fun e => K2.out (hne.out 2 (by decide) e), fun e => K3.out (hne.out 3 (by decide) e), fun e => K4.out (hne.out 4 (by decide) e), fun e => K5.out (hne.out 5 (by decide) e), fun e => K6.out (hne.out 6 (by decide) e), fun e => K7.out (hne.out 7 (by decide) e), fun e => K8.out (hne.out 8 (by decide) e), fun e => K9.out (hne.out 9 (by decide) e), fun e => K10.out (hne.out 10 (by decide) e), fun _ => rfl, fun e => K12.out (hne.out 12 (by decide) e), fun e => K13.out (hne.out 13 (by decide) e), fun e => K14.out (hne.out 14 (by decide) e), fun e => K15.out (hne.out 15 (by decide) e), fun e => K16.out (hne.out 16 (by decide) e), fun e => K17.out (hne.out 17 (by decide) e), fun e => K18.out (hne.out 18 (by decide) e), hB⟩
                · cases ho
                  refine wpOp_step rfl (fun K hK => ?_)
                  go_simp
                  refine hK _ _ ⟨by simpa using hz, v34, v35, v36, v37, v38, v39, v40, v41, v42, v43, v44, v45, .int .i64 ↑j, v47, v48, v49, v50, v51, v52, rfl, ?_⟩
                  exact ⟨fun e => K0.out (hne.out 0 (by decide) e), fun e => K1.out (hne.out 1 (by decide) e), fun e => K2.out (hne.out 2 (by decide) e), fun e => K3.out (hne.out 3 (by decide) e), fun e => K4.out (hne.out 4 (by decide) e), fun e => K5.out (hne.out 5 (by decide) e), fun e => K6.out (hne.out 6 (by decide) e), fun e => K7.out (hne.out 7 (by decide) e), fun e => K8.out (hne.out 8 (by decide) e), fun e => K9.out (hne.out 9 (by decide) e), fun e => K10.out (hne.out 10 (by decide) e), fun e => K11.out (hne.out 11 (by decide) e), fun _ => rfl, fun e => K13.out (hne.out 13 (by decide) e), fun e => K14.out (hne.out 14 (by decide) e), fun e => K15.out (hne.out 15 (by decide) e), fun e => K16.out (hne.out 16 (by decide) e), fun e => K17.out (hne.out 17 (by decide) e), fun e => K18.out (hne.out 18 (by decide) e), hB⟩
                · cases ho
                  have d11 := hd ⟨11, .data⟩ (by simp) rfl
                  have d12 := hd ⟨12, .data⟩ (by simp) rfl
                  obtain rfl := K11.out d11
                  obtain rfl := K12.out d12
                  have hk0 : (0 : Int) ≤ (j : Int) := by omega
                  have hk1 : (j : Int) < (n : Int) := by omega
                  refine wpOp_step rfl (fun K hK => ?_)
                  go_simp
                  refine hK _ _ ⟨by simpa using hz, v34, v35, v36, v37, v38, v39, v40, v41, v42, v43, v44, .slice (some ⟨g, off, none⟩) n c, .int .i64 ↑j, .pointer (some ⟨g, off + j * 5, none⟩), v48, v49, v50, v51, v52, rfl, ?_⟩
                  exact ⟨fun e => K0.out (hne.out 0 (by decide) e), fun e => K1.out (hne.out 1 (by decide) e), fun e => K2.out (hne.out 2 (by decide) e), fun e => K3.out (hne.out 3 (by decide) e), fun e => K4.out (hne.out 4 (by decide) e), fun e => K5.out (hne.out 5 (by decide) e), fun e => K6.out (hne.out 6 (by decide) e), fun e => K7.out (hne.out 7 (by decide) e), fun e => K8.out (hne.out 8 (by decide) e), fun e => K9.out (hne.out 9 (by decide) e), fun e => K10.out (hne.out 10 (by decide) e), fun e => K11.out (hne.out 11 (by decide) e), fun e => K12.out (hne.out 12 (by decide) e), fun _ => rfl, fun e => K14.out (hne.out 14 (by decide) e), fun e => K15.out (hne.out 15 (by decide) e), fun e => K16.out (hne.out 16 (by decide) e), fun e => K17.out (hne.out 17 (by decide) e), fun e => K18.out (hne.out 18 (by decide) e), hB⟩
                · cases ho
                  have d13 := hd ⟨13, .data⟩ (by simp) rfl
                  obtain rfl := K13.out d13
                  obtain ⟨_, e0, e1, e2, e3, e4, e5, e6, e7⟩ := hOk.out wx hB
                  refine wpOp_step rfl (fun K hK => ?_)
                  go_simp
                  refine hK _ _ ⟨by simpa using hz, v34, v35, v36, v37, v38, v39, v40, v41, v42, v43, v44, v45, v46, .pointer (some ⟨g, off + j * 5, none⟩), .agg #[.int .i64 d.v, .int .i64 d.n, .int .i64 d.a, .int .i64 d.b, .int .i64 d.c], v49, v50, v51, v52, rfl, ?_⟩
                  exact ⟨fun e => K0.out (hne.out 0 (by decide) e), fun e => K1.out (hne.out 1 (by decide) e), fun e => K2.out (hne.out 2 (by decide) e), fun e => K3.out (hne.out 3 (by decide) e), fun e => K4.out (hne.out 4 (by decide) e), fun e => K5.out (hne.out 5 (by decide) e), fun e => K6.out (hne.out 6 (by decide) e), fun e => K7.out (hne.out 7 (by decide) e), fun e => K8.out (hne.out 8 (by decide) e), fun e => K9.out (hne.out 9 (by decide) e), fun e => K10.out (hne.out 10 (by decide) e), fun e => K11.out (hne.out 11 (by decide) e), fun e => K12.out (hne.out 12 (by decide) e), fun e => K13.out (hne.out 13 (by decide) e), fun _ => rfl, fun e => K15.out (hne.out 15 (by decide) e), fun e => K16.out (hne.out 16 (by decide) e), fun e => K17.out (hne.out 17 (by decide) e), fun e => K18.out (hne.out 18 (by decide) e), hB⟩
                · cases ho
                  have d14 := hd ⟨14, .data⟩ (by simp) rfl
                  obtain rfl := K14.out d14
                  refine wpOp_step rfl (fun K hK => ?_)
                  go_simp
                  go_at_call 81
                  refine (cL.out _).mono ?_
                  rintro e w3 ⟨rfl, hb3⟩
                  refine hK _ _ ⟨by simpa using hz, v34, v35, v36, v37, v38, v39, v40, v41, v42, v43, v44, v45, v46, v47, .agg #[.int .i64 d.v, .int .i64 d.n, .int .i64 d.a, .int .i64 d.b, .int .i64 d.c], .int .i64 (ln : Int), v50, v51, v52, rfl, ?_⟩
                  exact ⟨fun e => K0.out (hne.out 0 (by decide) e), fun e => K1.out (hne.out 1 (by decide) e), fun e => K2.out (hne.out 2 (by decide) e), fun e => K3.out (hne.out 3 (by decide) e), fun e => K4.out (hne.out 4 (by decide) e), fun e => K5.out (hne.out 5 (by decide) e), fun e => K6.out (hne.out 6 (by decide) e), fun e => K7.out (hne.out 7 (by decide) e), fun e => K8.out (hne.out 8 (by decide) e), fun e => K9.out (hne.out 9 (by decide) e), fun e => K10.out (hne.out 10 (by decide) e), fun e => K11.out (hne.out 11 (by decide) e), fun e => K12.out (hne.out 12 (by decide) e), fun e => K13.out (hne.out 13 (by decide) e), fun e => K14.out (hne.out 14 (by decide) e), fun _ => rfl, fun e => K16.out (hne.out 16 (by decide) e), fun e => K17.out (hne.out 17 (by decide) e), fun e => K18.out (hne.out 18 (by decide) e), hB.trans (hb3.mono hB.size)⟩
                · cases ho
                  have d7 := hd ⟨7, .data⟩ (by simp) rfl
                  have d10 := hd ⟨10, .data⟩ (by simp) rfl
                  have d15 := hd ⟨15, .data⟩ (by simp) rfl
                  obtain rfl := K7.out d7
                  obtain rfl := K10.out d10
                  obtain rfl := K15.out d15
                  refine wpOp_step rfl (fun K hK => ?_)
                  go_simp
                  go_at_call 80
                  refine (cF.out _).mono ?_
                  rintro e w3 ⟨rfl, rfl⟩
                  refine hK _ _ ⟨by simpa using hz, v34, v35, v36, v37, v38, v39, v40, .int .i64 cj, v42, v43, .int .i64 ((vn : Int) + 1), v45, v46, v47, v48, .int .i64 (ln : Int), .int .i64 tj, v51, v52, rfl, ?_⟩
                  exact ⟨fun e => K0.out (hne.out 0 (by decide) e), fun e => K1.out (hne.out 1 (by decide) e), fun e => K2.out (hne.out 2 (by decide) e), fun e => K3.out (hne.out 3 (by decide) e), fun e => K4.out (hne.out 4 (by decide) e), fun e => K5.out (hne.out 5 (by decide) e), fun e => K6.out (hne.out 6 (by decide) e), fun e => K7.out (hne.out 7 (by decide) e), fun e => K8.out (hne.out 8 (by decide) e), fun e => K9.out (hne.out 9 (by decide) e), fun e => K10.out (hne.out 10 (by decide) e), fun e => K11.out (hne.out 11 (by decide) e), fun e => K12.out (hne.out 12 (by decide) e), fun e => K13.out (hne.out 13 (by decide) e), fun e => K14.out (hne.out 14 (by decide) e), fun e => K15.out (hne.out 15 (by decide) e), fun _ => rfl, fun e => K17.out (hne.out 17 (by decide) e), fun e => K18.out (hne.out 18 (by decide) e), hB⟩
                · cases ho
                  have d3 := hd ⟨3, .data⟩ (by simp) rfl
                  have d16 := hd ⟨16, .data⟩ (by simp) rfl
                  obtain rfl := K3.out d3
                  obtain rfl := K16.out d16
                  have hw1 : IntKind.i64.wrap (p + tj) = p + tj := by rw [IntKind.wrap_i64]; omega
                  refine wpOp_step rfl (fun K hK => ?_)
                  go_simp
                  refine hK _ _ ⟨by simpa using hz, v34, v35, v36, .int .i64 p, v38, v39, v40, v41, v42, v43, v44, v45, v46, v47, v48, v49, .int .i64 tj, .int .i64 (p + tj), v52, rfl, ?_⟩
                  exact ⟨fun e => K0.out (hne.out 0 (by decide) e), fun e => K1.out (hne.out 1 (by decide) e), fun e => K2.out (hne.out 2 (by decide) e), fun e => K3.out (hne.out 3 (by decide) e), fun e => K4.out (hne.out 4 (by decide) e), fun e => K5.out (hne.out 5 (by decide) e), fun e => K6.out (hne.out 6 (by decide) e), fun e => K7.out (hne.out 7 (by decide) e), fun e => K8.out (hne.out 8 (by decide) e), fun e => K9.out (hne.out 9 (by decide) e), fun e => K10.out (hne.out 10 (by decide) e), fun e => K11.out (hne.out 11 (by decide) e), fun e => K12.out (hne.out 12 (by decide) e), fun e => K13.out (hne.out 13 (by decide) e), fun e => K14.out (hne.out 14 (by decide) e), fun e => K15.out (hne.out 15 (by decide) e), fun e => K16.out (hne.out 16 (by decide) e), fun _ => rfl, fun e => K18.out (hne.out 18 (by decide) e), hB⟩
                · cases ho
                  have d0 := hd ⟨0, .data⟩ (by simp) rfl
                  have d1 := hd ⟨1, .data⟩ (by simp) rfl
                  obtain rfl := K0.out d0
                  obtain rfl := K1.out d1
                  have hk0 : (0 : Int) ≤ (k : Int) := by omega
                  have hk1 : (k : Int) < (n : Int) := by omega
                  refine wpOp_step rfl (fun K hK => ?_)
                  go_simp
                  refine hK _ _ ⟨by simpa using hz, .slice (some ⟨gs, 0, none⟩) n n, .int .i64 ↑k, v36, v37, v38, v39, v40, v41, v42, v43, v44, v45, v46, v47, v48, v49, v50, v51, .pointer (some ⟨gs, k, none⟩), rfl, ?_⟩
                  exact ⟨fun e => K0.out (hne.out 0 (by decide) e), fun e => K1.out (hne.out 1 (by decide) e), fun e => K2.out (hne.out 2 (by decide) e), fun e => K3.out (hne.out 3 (by decide) e), fun e => K4.out (hne.out 4 (by decide) e), fun e => K5.out (hne.out 5 (by decide) e), fun e => K6.out (hne.out 6 (by decide) e), fun e => K7.out (hne.out 7 (by decide) e), fun e => K8.out (hne.out 8 (by decide) e), fun e => K9.out (hne.out 9 (by decide) e), fun e => K10.out (hne.out 10 (by decide) e), fun e => K11.out (hne.out 11 (by decide) e), fun e => K12.out (hne.out 12 (by decide) e), fun e => K13.out (hne.out 13 (by decide) e), fun e => K14.out (hne.out 14 (by decide) e), fun e => K15.out (hne.out 15 (by decide) e), fun e => K16.out (hne.out 16 (by decide) e), fun e => K17.out (hne.out 17 (by decide) e), fun _ => rfl, hB⟩
              case hl =>
                rintro listed aq wx ⟨hz, v34, v35, v36, v37, v38, v39, v40, v41, v42, v43, v44, v45, v46, v47, v48, v49, v50, v51, v52, rfl, hII⟩ hall
                have K0 := Lib.hid hII.1
                have K1 := Lib.hid hII.2.1
                have K2 := Lib.hid hII.2.2.1
                have K3 := Lib.hid hII.2.2.2.1
                have K4 := Lib.hid hII.2.2.2.2.1
                have K5 := Lib.hid hII.2.2.2.2.2.1
                have K6 := Lib.hid hII.2.2.2.2.2.2.1
                have K7 := Lib.hid hII.2.2.2.2.2.2.2.1
                have K8 := Lib.hid hII.2.2.2.2.2.2.2.2.1
                have K9 := Lib.hid hII.2.2.2.2.2.2.2.2.2.1
                have K10 := Lib.hid hII.2.2.2.2.2.2.2.2.2.2.1
                have K11 := Lib.hid hII.2.2.2.2.2.2.2.2.2.2.2.1
                have K12 := Lib.hid hII.2.2.2.2.2.2.2.2.2.2.2.2.1
                have K13 := Lib.hid hII.2.2.2.2.2.2.2.2.2.2.2.2.2.1
                have K14 := Lib.hid hII.2.2.2.2.2.2.2.2.2.2.2.2.2.2.1
                have K15 := Lib.hid hII.2.2.2.2.2.2.2.2.2.2.2.2.2.2.2.1
                have K16 := Lib.hid hII.2.2.2.2.2.2.2.2.2.2.2.2.2.2.2.2.1
                have K17 := Lib.hid hII.2.2.2.2.2.2.2.2.2.2.2.2.2.2.2.2.2.1
                have K18 := Lib.hid hII.2.2.2.2.2.2.2.2.2.2.2.2.2.2.2.2.2.2.1
                have hB : Below wq.heap.size wq wx := hII.2.2.2.2.2.2.2.2.2.2.2.2.2.2.2.2.2.2.2
                clear hII
                obtain rfl := K0.out (hall 0 (by decide))
                obtain rfl := K1.out (hall 1 (by decide))
                obtain rfl := K2.out (hall 2 (by decide))
                obtain rfl := K3.out (hall 3 (by decide))
                obtain rfl := K4.out (hall 4 (by decide))
                obtain rfl := K5.out (hall 5 (by decide))
                obtain rfl := K6.out (hall 6 (by decide))
                obtain rfl := K7.out (hall 7 (by decide))
                obtain rfl := K8.out (hall 8 (by decide))
                obtain rfl := K9.out (hall 9 (by decide))
                obtain rfl := K10.out (hall 10 (by decide))
                obtain rfl := K11.out (hall 11 (by decide))
                obtain rfl := K12.out (hall 12 (by decide))
                obtain rfl := K13.out (hall 13 (by decide))
                obtain rfl := K14.out (hall 14 (by decide))
                obtain rfl := K15.out (hall 15 (by decide))
                obtain rfl := K16.out (hall 16 (by decide))
                obtain rfl := K17.out (hall 17 (by decide))
                obtain rfl := K18.out (hall 18 (by decide))
                clear hall K0 K1 K2 K3 K4 K5 K6 K7 K8 K9 K10 K11 K12 K13 K14 K15 K16 K17 K18
                have e0 := (hOk.out wx hB).2.1
                have f0 := (hHq.out.kept hB).frozen k
                refine wpOp_step rfl (fun K0 hK0 => ?_)
                go_simp
                refine hK0 _ _ ?_
                clear hK0
                have hN := Lib.hid ((hHq.out.kept hB).put k (.int .i64 (p + tj)))
                have hWn := Lib.hid ((hWq.out.kept hB).far (p := ⟨gs, k, none⟩) hne (.int .i64 (p + tj)))
                have hBn := Lib.hid ((hBq.out.trans (hB.mono hzq)).setCell (p := ⟨gs, k, none⟩) hz1 (.int .i64 (p + tj)))
                clear hB
                go_wp2_with fail
                exact ⟨⟨_, _, hN.out, hFq.out.set hlt _, hBn.out, hWn.out, .inr (.inr (.inl ⟨rfl, hP2.out⟩))⟩, by simp [intOf]⟩
            · have hp0 : 0 ≤ p ∧ p ≤ 100000000000 := by omega
              have hP := Lib.hid hp
              clear hp
              have hT' : tmS ds vn jc = csum ds ((jc : Int)).toNat * 3 ^ ((gt ds ((jc : Int)).toNat).lev - vn - 1).toNat := rfl
              obtain ⟨hj0, hj1, hj2⟩ := hKc
              generalize jc = j at *
              have hjk : j < k := by omega
              have hjn : j < n := by omega
              have hlb := lev_bd (up_of hO.out) (i := j) (by rw [hLn.out]; omega)
              have hcb := csum_bd hO.out (i := j) (by rw [hLn.out]; omega)
              rw [Int.toNat_natCast] at hT'
              obtain ⟨ln, hln⟩ : ∃ ln : Nat, (gt ds j).lev = ln := ⟨_, (Int.toNat_of_nonneg hlb.1).symm⟩
              obtain ⟨g', off', eA, hg', hat⟩ := (hH.out.below hBq.out).gt_ (k := j) (by omega)
              injection eA with eA
              injection eA with eA1 eA2 _
              subst eA1 eA2
              have cL := Lib.hid (fun wx => levelOf_any (gt ds j) wx)
              have hc7 : cq[j]? = some (.int .i64 (csum ds j)) := hfq.2.1 j hjk hjn
              have hck : cq[k]? = some (.int .i64 p) := hfq.2.2.1 hlt
              rw [hln] at cL hT' hj2
              have hln4 : ln ≤ 4 := by omega
              have hvl : vn + 1 ≤ ln := by omega
              rw [show ((ln : Int) - vn - 1).toNat = ln - (vn + 1) by omega] at hT'
              generalize htj : tmS ds (vn : Int) (j : Int) = tj at *
              have cF := Lib.hid (fun wx => sumFrom_any (csum ds j) (vn + 1) ln wx hvl hln4 hcb.1 (by rw [← hT']; omega))
              rw [← hT'] at cF
              have hP2 := Lib.hid (show p + tj = 0 + tmS ds vn ja + tmS ds vn jb + tj by rw [hP.out])
              generalize csum ds j = cj at *
              generalize gt ds j = d at *
              obtain ⟨c0, c1, c2, c3, c4⟩ := hat.open_
              have hgz : g < wq.heap.size := by omega
              have hOk := Lib.hid (fun (wx : World) (hx : Below wq.heap.size wq wx) => (show Below wq.heap.size wq wx ∧ wx.cell? ⟨gs, k, none⟩ = some (.int .i64 p) ∧ wx.cell? ⟨gs, j, none⟩ = some (.int .i64 cj) ∧ wx.cell? ⟨gc, 0, none⟩ = some (.int .i64 (vn : Int)) ∧ wx.cell? ⟨g, off + j * 5, none⟩ = some (.int .i64 d.v) ∧ wx.cell? ⟨g, off + j * 5 + 1, none⟩ = some (.int .i64 d.n) ∧ wx.cell? ⟨g, off + j * 5 + 2, none⟩ = some (.int .i64 d.a) ∧ wx.cell? ⟨g, off + j * 5 + 3, none⟩ = some (.int .i64 d.b) ∧ wx.cell? ⟨g, off + j * 5 + 4, none⟩ = some (.int .i64 d.c) from ⟨hx, ((hHq.out.kept hx).cell k).trans hck, ((hHq.out.kept hx).cell j).trans hc7, (hWq.out.kept hx).cell 0, (hx.cell (p := ⟨g, off + j * 5, none⟩) (by exact hgz)).trans c0, (hx.cell (p := ⟨g, off + j * 5 + 1, none⟩) (by exact hgz)).trans c1, (hx.cell (p := ⟨g, off + j * 5 + 2, none⟩) (by exact hgz)).trans c2, (hx.cell (p := ⟨g, off + j * 5 + 3, none⟩) (by exact hgz)).trans c3, (hx.cell (p := ⟨g, off + j * 5 + 4, none⟩) (by exact hgz)).trans c4⟩))
              have htb : 0 ≤ tj ∧ tj ≤ 27000000000 := hTc
              have hPP := Lib.hid htj
              clear hat hc7 hck hT' hlb hcb c0 c1 c2 c3 c4 hj0 hj1 hj2 hv3 hln htj hfq hv hTa hTbb hTc
              go_wp2_with fail
              clear hhq hbq hwq
              refine wp_region_any (by kernel_rfl) ?_
              change wpAny _ _ _ _ _ _ _ (World.drew _)
              refine wpAny_last (n := 19) (I := fun listed aq wx => listed.size = 20 ∧ ∃ v34 v35 v36 v37 v38 v39 v40 v41 v42 v43 v44 v45 v46 v47 v48 v49 v50 v51 v52 : Value, aq = { tmps := #[.slice (some ⟨g, off, none⟩) n c, undef, .slice none 0 0, .slice (some ⟨gs, 0, none⟩) n n, .int .i64 ↑k, .pointer (some ⟨gc, 0, none⟩), undef, .int .i64 ↑j, .slice (some ⟨g, off, none⟩) n c, .bool true, .bool false, .slice (some ⟨g, off, none⟩) n c, .int .i64 ↑n, .slice (some ⟨gs, 0, none⟩) n n, .slice (some ⟨g, off, none⟩) n c, .int .i64 ↑n, .int .i64 ↑k, .bool true, .int .i64 ↑k, .pointer (some ⟨g, off + k * 5, none⟩), .agg #[.int .i64 ↑vn, .int .i64 sn, .int .i64 ↑ja, .int .i64 ↑jb, .int .i64 ↑j], .pointer (some ⟨gc, 0, none⟩), .int .i64 ↑vn, .bool false, u24, u25, u26, u27, u28, .pointer (some ⟨gc, 2, none⟩), .agg #[.int .i64 ↑ja, .int .i64 ↑jb, .int .i64 ↑j], .int .i64 2, .bool true, .int .i64 ↑j, v34, v35, v36, v37, v38, v39, v40, v41, v42, v43, v44, v45, v46, v47, v48, v49, v50, v51, v52, u53, u54, undef], defers := [] } ∧ (listed.getD 0 false = true → v34 = .slice (some ⟨gs, 0, none⟩) n n) ∧ (listed.getD 1 false = true → v35 = .int .i64 ↑k) ∧ (listed.getD 2 false = true → v36 = .pointer (some ⟨gs, k, none⟩)) ∧ (listed.getD 3 false = true → v37 = .int .i64 p) ∧ (listed.getD 4 false = true → v38 = .slice (some ⟨gs, 0, none⟩) n n) ∧ (listed.getD 5 false = true → v39 = .int .i64 ↑j) ∧ (listed.getD 6 false = true → v40 = .pointer (some ⟨gs, j, none⟩)) ∧ (listed.getD 7 false = true → v41 = .int .i64 cj) ∧ (listed.getD 8 false = true → v42 = .pointer (some ⟨gc, 0, none⟩)) ∧ (listed.getD 9 false = true → v43 = .int .i64 (vn : Int)) ∧ (listed.getD 10 false = true → v44 = .int .i64 ((vn : Int) + 1)) ∧ (listed.getD 11 false = true → v45 = .slice (some ⟨g, off, none⟩) n c) ∧ (listed.getD 12 false = true → v46 = .int .i64 ↑j) ∧ (listed.getD 13 false = true → v47 = .pointer (some ⟨g, off + j * 5, none⟩)) ∧ (listed.getD 14 false = true → v48 = .agg #[.int .i64 d.v, .int .i64 d.n, .int .i64 d.a, .int .i64 d.b, .int .i64 d.c]) ∧ (listed.getD 15 false = true → v49 = .int .i64 (ln : Int)) ∧ (listed.getD 16 false = true → v50 = .int .i64 tj) ∧ (listed.getD 17 false = true → v51 = .int .i64 (p + tj)) ∧ (listed.getD 18 false = true → v52 = .pointer (some ⟨gs, k, none⟩)) ∧ Below wq.heap.size wq wx) rfl (by kernel_rfl) (by kernel_rfl) ?hs ?hl _ _ _ ?st rfl (by decide) _ (by decide)
              case st =>
                refine ⟨rfl, u34, u35, u36, u37, u38, u39, u40, u41, u42, u43, u44, u45, u46, u47, u48, u49, u50, u51, u52, rfl, ?_, ?_, ?_, ?_, ?_, ?_, ?_, ?_, ?_, ?_, ?_, ?_, ?_, ?_, ?_, ?_, ?_, ?_, ?_, (Below.refl _ _).drew⟩ <;> (intro e; exact absurd e (by decide))
              case hs =>
                rintro listed aq wx ⟨hz, v34, v35, v36, v37, v38, v39, v40, v41, v42, v43, v44, v45, v46, v47, v48, v49, v50, v51, v52, rfl, hII⟩ i hin hi
                obtain ⟨h0, o, ho, hd⟩ := mem_ready.1 hi
                have K0 := Lib.hid hII.1
                have K1 := Lib.hid hII.2.1
                have K2 := Lib.hid hII.2.2.1
                have K3 := Lib.hid hII.2.2.2.1
                have K4 := Lib.hid hII.2.2.2.2.1
                have K5 := Lib.hid hII.2.2.2.2.2.1
                have K6 := Lib.hid hII.2.2.2.2.2.2.1
                have K7 := Lib.hid hII.2.2.2.2.2.2.2.1
                have K8 := Lib.hid hII.2.2.2.2.2.2.2.2.1
                have K9 := Lib.hid hII.2.2.2.2.2.2.2.2.2.1
                have K10 := Lib.hid hII.2.2.2.2.2.2.2.2.2.2.1
                have K11 := Lib.hid hII.2.2.2.2.2.2.2.2.2.2.2.1
                have K12 := Lib.hid hII.2.2.2.2.2.2.2.2.2.2.2.2.1
                have K13 := Lib.hid hII.2.2.2.2.2.2.2.2.2.2.2.2.2.1
                have K14 := Lib.hid hII.2.2.2.2.2.2.2.2.2.2.2.2.2.2.1
                have K15 := Lib.hid hII.2.2.2.2.2.2.2.2.2.2.2.2.2.2.2.1
                have K16 := Lib.hid hII.2.2.2.2.2.2.2.2.2.2.2.2.2.2.2.2.1
                have K17 := Lib.hid hII.2.2.2.2.2.2.2.2.2.2.2.2.2.2.2.2.2.1
                have K18 := Lib.hid hII.2.2.2.2.2.2.2.2.2.2.2.2.2.2.2.2.2.2.1
                have hB : Below wq.heap.size wq wx := hII.2.2.2.2.2.2.2.2.2.2.2.2.2.2.2.2.2.2.2
                have hne := Lib.hid (fun k (hk : i ≠ k) => @listed_ne listed i k hk)
                have h0f : listed.getD i false = false := by rw [Array.getD_eq_getD_getElem?, getD_false h0]; rfl
                clear hII hi h0
                rcases (by omega : i = 0 ∨ i = 1 ∨ i = 2 ∨ i = 3 ∨ i = 4 ∨ i = 5 ∨ i = 6 ∨ i = 7 ∨ i = 8 ∨ i = 9 ∨ i = 10 ∨ i = 11 ∨ i = 12 ∨ i = 13 ∨ i = 14 ∨ i = 15 ∨ i = 16 ∨ i = 17 ∨ i = 18) with rfl | rfl | rfl | rfl | rfl | rfl | rfl | rfl | rfl | rfl | rfl | rfl | rfl | rfl | rfl | rfl | rfl | rfl | rfl
                · cases ho
                  refine wpOp_step rfl (fun K hK => ?_)
                  go_simp
                  refine hK _ _ ⟨by simpa using hz, .slice (some ⟨gs, 0, none⟩) n n, v35, v36, v37, v38, v39, v40, v41, v42, v43, v44, v45, v46, v47, v48, v49, v50, v51, v52, rfl, ?_⟩
                  exact ⟨fun _ => rfl, fun e => K1.out (hne.out 1 (by decide) e), fun e => K2.out (hne.out 2 (by decide) e), fun e => K3.out (hne.out 3 (by decide) e), fun e => K4.out (hne.out 4 (by decide) e), fun e => K5.out (hne.out 5 (by decide) e), fun e => K6.out (hne.out 6 (by decide) e), fun e => K7.out (hne.out 7 (by decide) e), fun e => K8.out (hne.out 8 (by decide) e), fun e => K9.out (hne.out 9 (by decide) e), fun e => K10.out (hne.out 10 (by decide) e), fun e => K11.out (hne.out 11 (by decide) e), fun e => K12.out (hne.out 12 (by decide) e), fun e => K13.out (hne.out 13 (by decide) e), fun e => K14.out (hne.out 14 (by decide) e), fun e => K15.out (hne.out 15 (by decide) e), fun e => K16.out (hne.out 16 (by decide) e), fun e => K17.out (hne.out 17 (by decide) e), fun e => K18.out (hne.out 18 (by decide) e), hB⟩
                · cases ho
                  refine wpOp_step rfl (fun K hK => ?_)
                  go_simp
                  refine hK _ _ ⟨by simpa using hz, v34, .int .i64 ↑k, v36, v37, v38, v39, v40, v41, v42, v43, v44, v45, v46, v47, v48, v49, v50, v51, v52, rfl, ?_⟩
                  exact ⟨fun e => K0.out (hne.out 0 (by decide) e), fun _ => rfl, fun e => K2.out (hne.out 2 (by decide) e), fun e => K3.out (hne.out 3 (by decide) e), fun e => K4.out (hne.out 4 (by decide) e), fun e => K5.out (hne.out 5 (by decide) e), fun e => K6.out (hne.out 6 (by decide) e), fun e => K7.out (hne.out 7 (by decide) e), fun e => K8.out (hne.out 8 (by decide) e), fun e => K9.out (hne.out 9 (by decide) e), fun e => K10.out (hne.out 10 (by decide) e), fun e => K11.out (hne.out 11 (by decide) e), fun e => K12.out (hne.out 12 (by decide) e), fun e => K13.out (hne.out 13 (by decide) e), fun e => K14.out (hne.out 14 (by decide) e), fun e => K15.out (hne.out 15 (by decide) e), fun e => K16.out (hne.out 16 (by decide) e), fun e => K17.out (hne.out 17 (by decide) e), fun e => K18.out (hne.out 18 (by decide) e), hB⟩
                · cases ho
                  have d0 := hd ⟨0, .data⟩ (by simp) rfl
                  have d1 := hd ⟨1, .data⟩ (by simp) rfl
                  obtain rfl := K0.out d0
                  obtain rfl := K1.out d1
                  have hk0 : (0 : Int) ≤ (k : Int) := by omega
                  have hk1 : (k : Int) < (n : Int) := by omega
                  refine wpOp_step rfl (fun K hK => ?_)
                  go_simp
                  refine hK _ _ ⟨by simpa using hz, .slice (some ⟨gs, 0, none⟩) n n, .int .i64 ↑k, .pointer (some ⟨gs, k, none⟩), v37, v38, v39, v40, v41, v42, v43, v44, v45, v46, v47, v48, v49, v50, v51, v52, rfl, ?_⟩
                  exact ⟨fun e => K0.out (hne.out 0 (by decide) e), fun e => K1.out (hne.out 1 (by decide) e), fun _ => rfl, fun e => K3.out (hne.out 3 (by decide) e), fun e => K4.out (hne.out 4 (by decide) e), fun e => K5.out (hne.out 5 (by decide) e), fun e => K6.out (hne.out 6 (by decide) e), fun e => K7.out (hne.out 7 (by decide) e), fun e => K8.out (hne.out 8 (by decide) e), fun e => K9.out (hne.out 9 (by decide) e), fun e => K10.out (hne.out 10 (by decide) e), fun e => K11.out (hne.out 11 (by decide) e), fun e => K12.out (hne.out 12 (by decide) e), fun e => K13.out (hne.out 13 (by decide) e), fun e => K14.out (hne.out 14 (by decide) e), fun e => K15.out (hne.out 15 (by decide) e), fun e => K16.out (hne.out 16 (by decide) e), fun e => K17.out (hne.out 17 (by decide) e), fun e => K18.out (hne.out 18 (by decide) e), hB⟩
                · cases ho
                  have d2 := hd ⟨2, .data⟩ (by simp) rfl
                  obtain rfl := K2.out d2
                  obtain ⟨_, e0, e1, e2, e3, e4, e5, e6, e7⟩ := hOk.out wx hB
                  refine wpOp_step rfl (fun K hK => ?_)
                  go_simp
                  refine hK _ _ ⟨by simpa using hz, v34, v35, .pointer (some ⟨gs, k, none⟩), .int .i64 p, v38, v39, v40, v41, v42, v43, v44, v45, v46, v47, v48, v49, v50, v51, v52, rfl, ?_⟩
                  exact ⟨fun e => K0.out (hne.out 0 (by decide) e), fun e => K1.out (hne.out 1 (by decide) e), fun e => K2.out (hne.out 2 (by decide) e), fun _ => rfl, fun e => K4.out (hne.out 4 (by decide) e), fun e => K5.out (hne.out 5 (by decide) e), fun e => K6.out (hne.out 6 (by decide) e), fun e => K7.out (hne.out 7 (by decide) e), fun e => K8.out (hne.out 8 (by decide) e), fun e => K9.out (hne.out 9 (by decide) e), fun e => K10.out (hne.out 10 (by decide) e), fun e => K11.out (hne.out 11 (by decide) e), fun e => K12.out (hne.out 12 (by decide) e), fun e => K13.out (hne.out 13 (by decide) e), fun e => K14.out (hne.out 14 (by decide) e), fun e => K15.out (hne.out 15 (by decide) e), fun e => K16.out (hne.out 16 (by decide) e), fun e => K17.out (hne.out 17 (by decide) e), fun e => K18.out (hne.out 18 (by decide) e), hB⟩
                · cases ho
                  refine wpOp_step rfl (fun K hK => ?_)
                  go_simp
                  refine hK _ _ ⟨by simpa using hz, v34, v35, v36, v37, .slice (some ⟨gs, 0, none⟩) n n, v39, v40, v41, v42, v43, v44, v45, v46, v47, v48, v49, v50, v51, v52, rfl, ?_⟩
                  exact ⟨fun e => K0.out (hne.out 0 (by decide) e), fun e => K1.out (hne.out 1 (by decide) e), fun e => K2.out (hne.out 2 (by decide) e), fun e => K3.out (hne.out 3 (by decide) e), fun _ => rfl, fun e => K5.out (hne.out 5 (by decide) e), fun e => K6.out (hne.out 6 (by decide) e), fun e => K7.out (hne.out 7 (by decide) e), fun e => K8.out (hne.out 8 (by decide) e), fun e => K9.out (hne.out 9 (by decide) e), fun e => K10.out (hne.out 10 (by decide) e), fun e => K11.out (hne.out 11 (by decide) e), fun e => K12.out (hne.out 12 (by decide) e), fun e => K13.out (hne.out 13 (by decide) e), fun e => K14.out (hne.out 14 (by decide) e), fun e => K15.out (hne.out 15 (by decide) e), fun e => K16.out (hne.out 16 (by decide) e), fun e => K17.out (hne.out 17 (by decide) e), fun e => K18.out (hne.out 18 (by decide) e), hB⟩
                · cases ho
                  refine wpOp_step rfl (fun K hK => ?_)
                  go_simp
                  refine hK _ _ ⟨by simpa using hz, v34, v35, v36, v37, v38, .int .i64 ↑j, v40, v41, v42, v43, v44, v45, v46, v47, v48, v49, v50, v51, v52, rfl, ?_⟩
                  exact ⟨fun e => K0.out (hne.out 0 (by decide) e), fun e => K1.out (hne.out 1 (by decide) e), fun e => K2.out (hne.out 2 (by decide) e), fun e => K3.out (hne.out 3 (by decide) e), fun e => K4.out (hne.out 4 (by decide) e), fun _ => rfl, fun e => K6.out (hne.out 6 (by decide) e), fun e => K7.out (hne.out 7 (by decide) e), fun e => K8.out (hne.out 8 (by decide) e), fun e => K9.out (hne.out 9 (by decide) e), fun e => K10.out (hne.out 10 (by decide) e), fun e => K11.out (hne.out 11 (by decide) e), fun e => K12.out (hne.out 12 (by decide) e), fun e => K13.out (hne.out 13 (by decide) e), fun e => K14.out (hne.out 14 (by decide) e), fun e => K15.out (hne.out 15 (by decide) e), fun e => K16.out (hne.out 16 (by decide) e), fun e => K17.out (hne.out 17 (by decide) e), fun e => K18.out (hne.out 18 (by decide) e), hB⟩
                · cases ho
                  have d4 := hd ⟨4, .data⟩ (by simp) rfl
                  have d5 := hd ⟨5, .data⟩ (by simp) rfl
                  obtain rfl := K4.out d4
                  obtain rfl := K5.out d5
                  have hk0 : (0 : Int) ≤ (j : Int) := by omega
                  have hk1 : (j : Int) < (n : Int) := by omega
                  refine wpOp_step rfl (fun K hK => ?_)
                  go_simp
                  refine hK _ _ ⟨by simpa using hz, v34, v35, v36, v37, .slice (some ⟨gs, 0, none⟩) n n, .int .i64 ↑j, .pointer (some ⟨gs, j, none⟩), v41, v42, v43, v44, v45, v46, v47, v48, v49, v50, v51, v52, rfl, ?_⟩
                  exact ⟨fun e => K0.out (hne.out 0 (by decide) e), fun e => K1.out (hne.out 1 (by decide) e), fun e => K2.out (hne.out 2 (by decide) e), fun e => K3.out (hne.out 3 (by decide) e), fun e => K4.out (hne.out 4 (by decide) e), fun e => K5.out (hne.out 5 (by decide) e), fun _ => rfl, fun e => K7.out (hne.out 7 (by decide) e), fun e => K8.out (hne.out 8 (by decide) e), fun e => K9.out (hne.out 9 (by decide) e), fun e => K10.out (hne.out 10 (by decide) e), fun e => K11.out (hne.out 11 (by decide) e), fun e => K12.out (hne.out 12 (by decide) e), fun e => K13.out (hne.out 13 (by decide) e), fun e => K14.out (hne.out 14 (by decide) e), fun e => K15.out (hne.out 15 (by decide) e), fun e => K16.out (hne.out 16 (by decide) e), fun e => K17.out (hne.out 17 (by decide) e), fun e => K18.out (hne.out 18 (by decide) e), hB⟩
                · cases ho
                  have d6 := hd ⟨6, .data⟩ (by simp) rfl
                  obtain rfl := K6.out d6
                  obtain ⟨_, e0, e1, e2, e3, e4, e5, e6, e7⟩ := hOk.out wx hB
                  refine wpOp_step rfl (fun K hK => ?_)
                  go_simp
                  refine hK _ _ ⟨by simpa using hz, v34, v35, v36, v37, v38, v39, .pointer (some ⟨gs, j, none⟩), .int .i64 cj, v42, v43, v44, v45, v46, v47, v48, v49, v50, v51, v52, rfl, ?_⟩
                  exact ⟨fun e => K0.out (hne.out 0 (by decide) e), fun e => K1.out (hne.out 1 (by decide) e), fun e => K2.out (hne.out 2 (by decide) e), fun e => K3.out (hne.out 3 (by decide) e), fun e => K4.out (hne.out 4 (by decide) e), fun e => K5.out (hne.out 5 (by decide) e), fun e => K6.out (hne.out 6 (by decide) e), fun _ => rfl, fun e => K8.out (hne.out 8 (by decide) e), fun e => K9.out (hne.out 9 (by decide) e), fun e => K10.out (hne.out 10 (by decide) e), fun e => K11.out (hne.out 11 (by decide) e), fun e => K12.out (hne.out 12 (by decide) e), fun e => K13.out (hne.out 13 (by decide) e), fun e => K14.out (hne.out 14 (by decide) e), fun e => K15.out (hne.out 15 (by decide) e), fun e => K16.out (hne.out 16 (by decide) e), fun e => K17.out (hne.out 17 (by decide) e), fun e => K18.out (hne.out 18 (by decide) e), hB⟩
                · cases ho
                  refine wpOp_step rfl (fun K hK => ?_)
                  go_simp
                  refine hK _ _ ⟨by simpa using hz, v34, v35, v36, v37, v38, v39, v40, v41, .pointer (some ⟨gc, 0, none⟩), v43, v44, v45, v46, v47, v48, v49, v50, v51, v52, rfl, ?_⟩
                  exact ⟨fun e => K0.out (hne.out 0 (by decide) e), fun e => K1.out (hne.out 1 (by decide) e), fun e => K2.out (hne.out 2 (by decide) e), fun e => K3.out (hne.out 3 (by decide) e), fun e => K4.out (hne.out 4 (by decide) e), fun e => K5.out (hne.out 5 (by decide) e), fun e => K6.out (hne.out 6 (by decide) e), fun e => K7.out (hne.out 7 (by decide) e), fun _ => rfl, fun e => K9.out (hne.out 9 (by decide) e), fun e => K10.out (hne.out 10 (by decide) e), fun e => K11.out (hne.out 11 (by decide) e), fun e => K12.out (hne.out 12 (by decide) e), fun e => K13.out (hne.out 13 (by decide) e), fun e => K14.out (hne.out 14 (by decide) e), fun e => K15.out (hne.out 15 (by decide) e), fun e => K16.out (hne.out 16 (by decide) e), fun e => K17.out (hne.out 17 (by decide) e), fun e => K18.out (hne.out 18 (by decide) e), hB⟩
                · cases ho
                  have d8 := hd ⟨8, .data⟩ (by simp) rfl
                  obtain rfl := K8.out d8
                  obtain ⟨_, e0, e1, e2, e3, e4, e5, e6, e7⟩ := hOk.out wx hB
                  refine wpOp_step rfl (fun K hK => ?_)
                  go_simp
                  refine hK _ _ ⟨by simpa using hz, v34, v35, v36, v37, v38, v39, v40, v41, .pointer (some ⟨gc, 0, none⟩), .int .i64 (vn : Int), v44, v45, v46, v47, v48, v49, v50, v51, v52, rfl, ?_⟩
                  exact ⟨fun e => K0.out (hne.out 0 (by decide) e), fun e => K1.out (hne.out 1 (by decide) e), fun e => K2.out (hne.out 2 (by decide) e), fun e => K3.out (hne.out 3 (by decide) e), fun e => K4.out (hne.out 4 (by decide) e), fun e => K5.out (hne.out 5 (by decide) e), fun e => K6.out (hne.out 6 (by decide) e), fun e => K7.out (hne.out 7 (by decide) e), fun e => K8.out (hne.out 8 (by decide) e), fun _ => rfl, fun e => K10.out (hne.out 10 (by decide) e), fun e => K11.out (hne.out 11 (by decide) e), fun e => K12.out (hne.out 12 (by decide) e), fun e => K13.out (hne.out 13 (by decide) e), fun e => K14.out (hne.out 14 (by decide) e), fun e => K15.out (hne.out 15 (by decide) e), fun e => K16.out (hne.out 16 (by decide) e), fun e => K17.out (hne.out 17 (by decide) e), fun e => K18.out (hne.out 18 (by decide) e), hB⟩
                · cases ho
                  have d9 := hd ⟨9, .data⟩ (by simp) rfl
                  obtain rfl := K9.out d9
                  have hw1 : IntKind.i64.wrap ((vn : Int) + 1) = (vn : Int) + 1 := by rw [IntKind.wrap_i64]; omega
                  refine wpOp_step rfl (fun K hK => ?_)
                  go_simp
                  refine hK _ _ ⟨by simpa using hz, v34, v35, v36, v37, v38, v39, v40, v41, v42, .int .i64 (vn : Int), .int .i64 ((vn : Int) + 1), v45, v46, v47, v48, v49, v50, v51, v52, rfl, ?_⟩
                  exact ⟨fun e => K0.out (hne.out 0 (by decide) e), fun e => K1.out (hne.out 1 (by decide) e), fun e => K2.out (hne.out 2 (by decide) e), fun e => K3.out (hne.out 3 (by decide) e), fun e => K4.out (hne.out 4 (by decide) e), fun e => K5.out (hne.out 5 (by decide) e), fun e => K6.out (hne.out 6 (by decide) e), fun e => K7.out (hne.out 7 (by decide) e), fun e => K8.out (hne.out 8 (by decide) e), fun e => K9.out (hne.out 9 (by decide) e), fun _ => rfl, fun e => K11.out (hne.out 11 (by decide) e), fun e => K12.out (hne.out 12 (by decide) e), fun e => K13.out (hne.out 13 (by decide) e), fun e => K14.out (hne.out 14 (by decide) e), fun e => K15.out (hne.out 15 (by decide) e), fun e => K16.out (hne.out 16 (by decide) e), fun e => K17.out (hne.out 17 (by decide) e), fun e => K18.out (hne.out 18 (by decide) e), hB⟩
                · cases ho
                  refine wpOp_step rfl (fun K hK => ?_)
                  go_simp
                  refine hK _ _ ⟨by simpa using hz, v34, v35, v36, v37, v38, v39, v40, v41, v42, v43, v44, .slice (some ⟨g, off, none⟩) n c, v46, v47, v48, v49, v50, v51, v52, rfl, ?_⟩
                  exact ⟨fun e => K0.out (hne.out 0 (by decide) e), fun e => K1.out (hne.out 1 (by decide) e), fun e => K2.out (hne.out 2 (by decide) e), fun e => K3.out (hne.out 3 (by decide) e), fun e => K4.out (hne.out 4 (by decide) e), fun e => K5.out (hne.out 5 (by decide) e), fun e => K6.out (hne.out 6 (by decide) e), fun e => K7.out (hne.out 7 (by decide) e), fun e => K8.out (hne.out 8 (by decide) e), fun e => K9.out (hne.out 9 (by decide) e), fun e => K10.out (hne.out 10 (by decide) e), fun _ => rfl, fun e => K12.out (hne.out 12 (by decide) e), fun e => K13.out (hne.out 13 (by decide) e), fun e => K14.out (hne.out 14 (by decide) e), fun e => K15.out (hne.out 15 (by decide) e), fun e => K16.out (hne.out 16 (by decide) e), fun e => K17.out (hne.out 17 (by decide) e), fun e => K18.out (hne.out 18 (by decide) e), hB⟩
                · cases ho
                  refine wpOp_step rfl (fun K hK => ?_)
                  go_simp
                  refine hK _ _ ⟨by simpa using hz, v34, v35, v36, v37, v38, v39, v40, v41, v42, v43, v44, v45, .int .i64 ↑j, v47, v48, v49, v50, v51, v52, rfl, ?_⟩
                  exact ⟨fun e => K0.out (hne.out 0 (by decide) e), fun e => K1.out (hne.out 1 (by decide) e), fun e => K2.out (hne.out 2 (by decide) e), fun e => K3.out (hne.out 3 (by decide) e), fun e => K4.out (hne.out 4 (by decide) e), fun e => K5.out (hne.out 5 (by decide) e), fun e => K6.out (hne.out 6 (by decide) e), fun e => K7.out (hne.out 7 (by decide) e), fun e => K8.out (hne.out 8 (by decide) e), fun e => K9.out (hne.out 9 (by decide) e), fun e => K10.out (hne.out 10 (by decide) e), fun e => K11.out (hne.out 11 (by decide) e), fun _ => rfl, fun e => K13.out (hne.out 13 (by decide) e), fun e => K14.out (hne.out 14 (by decide) e), fun e => K15.out (hne.out 15 (by decide) e), fun e => K16.out (hne.out 16 (by decide) e), fun e => K17.out (hne.out 17 (by decide) e), fun e => K18.out (hne.out 18 (by decide) e), hB⟩
                · cases ho
                  have d11 := hd ⟨11, .data⟩ (by simp) rfl
                  have d12 := hd ⟨12, .data⟩ (by simp) rfl
                  obtain rfl := K11.out d11
                  obtain rfl := K12.out d12
                  have hk0 : (0 : Int) ≤ (j : Int) := by omega
                  have hk1 : (j : Int) < (n : Int) := by omega
                  refine wpOp_step rfl (fun K hK => ?_)
                  go_simp
                  refine hK _ _ ⟨by simpa using hz, v34, v35, v36, v37, v38, v39, v40, v41, v42, v43, v44, .slice (some ⟨g, off, none⟩) n c, .int .i64 ↑j, .pointer (some ⟨g, off + j * 5, none⟩), v48, v49, v50, v51, v52, rfl, ?_⟩
                  exact ⟨fun e => K0.out (hne.out 0 (by decide) e), fun e => K1.out (hne.out 1 (by decide) e), fun e => K2.out (hne.out 2 (by decide) e), fun e => K3.out (hne.out 3 (by decide) e), fun e => K4.out (hne.out 4 (by decide) e), fun e => K5.out (hne.out 5 (by decide) e), fun e => K6.out (hne.out 6 (by decide) e), fun e => K7.out (hne.out 7 (by decide) e), fun e => K8.out (hne.out 8 (by decide) e), fun e => K9.out (hne.out 9 (by decide) e), fun e => K10.out (hne.out 10 (by decide) e), fun e => K11.out (hne.out 11 (by decide) e), fun e => K12.out (hne.out 12 (by decide) e), fun _ => rfl, fun e => K14.out (hne.out 14 (by decide) e), fun e => K15.out (hne.out 15 (by decide) e), fun e => K16.out (hne.out 16 (by decide) e), fun e => K17.out (hne.out 17 (by decide) e), fun e => K18.out (hne.out 18 (by decide) e), hB⟩
                · cases ho
                  have d13 := hd ⟨13, .data⟩ (by simp) rfl
                  obtain rfl := K13.out d13
                  obtain ⟨_, e0, e1, e2, e3, e4, e5, e6, e7⟩ := hOk.out wx hB
                  refine wpOp_step rfl (fun K hK => ?_)
                  go_simp
                  refine hK _ _ ⟨by simpa using hz, v34, v35, v36, v37, v38, v39, v40, v41, v42, v43, v44, v45, v46, .pointer (some ⟨g, off + j * 5, none⟩), .agg #[.int .i64 d.v, .int .i64 d.n, .int .i64 d.a, .int .i64 d.b, .int .i64 d.c], v49, v50, v51, v52, rfl, ?_⟩
                  exact ⟨fun e => K0.out (hne.out 0 (by decide) e), fun e => K1.out (hne.out 1 (by decide) e), fun e => K2.out (hne.out 2 (by decide) e), fun e => K3.out (hne.out 3 (by decide) e), fun e => K4.out (hne.out 4 (by decide) e), fun e => K5.out (hne.out 5 (by decide) e), fun e => K6.out (hne.out 6 (by decide) e), fun e => K7.out (hne.out 7 (by decide) e), fun e => K8.out (hne.out 8 (by decide) e), fun e => K9.out (hne.out 9 (by decide) e), fun e => K10.out (hne.out 10 (by decide) e), fun e => K11.out (hne.out 11 (by decide) e), fun e => K12.out (hne.out 12 (by decide) e), fun e => K13.out (hne.out 13 (by decide) e), fun _ => rfl, fun e => K15.out (hne.out 15 (by decide) e), fun e => K16.out (hne.out 16 (by decide) e), fun e => K17.out (hne.out 17 (by decide) e), fun e => K18.out (hne.out 18 (by decide) e), hB⟩
                · cases ho
                  have d14 := hd ⟨14, .data⟩ (by simp) rfl
                  obtain rfl := K14.out d14
                  refine wpOp_step rfl (fun K hK => ?_)
                  go_simp
                  go_at_call 81
                  refine (cL.out _).mono ?_
                  rintro e w3 ⟨rfl, hb3⟩
                  refine hK _ _ ⟨by simpa using hz, v34, v35, v36, v37, v38, v39, v40, v41, v42, v43, v44, v45, v46, v47, .agg #[.int .i64 d.v, .int .i64 d.n, .int .i64 d.a, .int .i64 d.b, .int .i64 d.c], .int .i64 (ln : Int), v50, v51, v52, rfl, ?_⟩
                  exact ⟨fun e => K0.out (hne.out 0 (by decide) e), fun e => K1.out (hne.out 1 (by decide) e), fun e => K2.out (hne.out 2 (by decide) e), fun e => K3.out (hne.out 3 (by decide) e), fun e => K4.out (hne.out 4 (by decide) e), fun e => K5.out (hne.out 5 (by decide) e), fun e => K6.out (hne.out 6 (by decide) e), fun e => K7.out (hne.out 7 (by decide) e), fun e => K8.out (hne.out 8 (by decide) e), fun e => K9.out (hne.out 9 (by decide) e), fun e => K10.out (hne.out 10 (by decide) e), fun e => K11.out (hne.out 11 (by decide) e), fun e => K12.out (hne.out 12 (by decide) e), fun e => K13.out (hne.out 13 (by decide) e), fun e => K14.out (hne.out 14 (by decide) e), fun _ => rfl, fun e => K16.out (hne.out 16 (by decide) e), fun e => K17.out (hne.out 17 (by decide) e), fun e => K18.out (hne.out 18 (by decide) e), hB.trans (hb3.mono hB.size)⟩
                · cases ho
                  have d7 := hd ⟨7, .data⟩ (by simp) rfl
                  have d10 := hd ⟨10, .data⟩ (by simp) rfl
                  have d15 := hd ⟨15, .data⟩ (by simp) rfl
                  obtain rfl := K7.out d7
                  obtain rfl := K10.out d10
                  obtain rfl := K15.out d15
                  refine wpOp_step rfl (fun K hK => ?_)
                  go_simp
                  go_at_call 80
                  refine (cF.out _).mono ?_
                  rintro e w3 ⟨rfl, rfl⟩
                  refine hK _ _ ⟨by simpa using hz, v34, v35, v36, v37, v38, v39, v40, .int .i64 cj, v42, v43, .int .i64 ((vn : Int) + 1), v45, v46, v47, v48, .int .i64 (ln : Int), .int .i64 tj, v51, v52, rfl, ?_⟩
                  exact ⟨fun e => K0.out (hne.out 0 (by decide) e), fun e => K1.out (hne.out 1 (by decide) e), fun e => K2.out (hne.out 2 (by decide) e), fun e => K3.out (hne.out 3 (by decide) e), fun e => K4.out (hne.out 4 (by decide) e), fun e => K5.out (hne.out 5 (by decide) e), fun e => K6.out (hne.out 6 (by decide) e), fun e => K7.out (hne.out 7 (by decide) e), fun e => K8.out (hne.out 8 (by decide) e), fun e => K9.out (hne.out 9 (by decide) e), fun e => K10.out (hne.out 10 (by decide) e), fun e => K11.out (hne.out 11 (by decide) e), fun e => K12.out (hne.out 12 (by decide) e), fun e => K13.out (hne.out 13 (by decide) e), fun e => K14.out (hne.out 14 (by decide) e), fun e => K15.out (hne.out 15 (by decide) e), fun _ => rfl, fun e => K17.out (hne.out 17 (by decide) e), fun e => K18.out (hne.out 18 (by decide) e), hB⟩
                · cases ho
                  have d3 := hd ⟨3, .data⟩ (by simp) rfl
                  have d16 := hd ⟨16, .data⟩ (by simp) rfl
                  obtain rfl := K3.out d3
                  obtain rfl := K16.out d16
                  have hw1 : IntKind.i64.wrap (p + tj) = p + tj := by rw [IntKind.wrap_i64]; omega
                  refine wpOp_step rfl (fun K hK => ?_)
                  go_simp
                  refine hK _ _ ⟨by simpa using hz, v34, v35, v36, .int .i64 p, v38, v39, v40, v41, v42, v43, v44, v45, v46, v47, v48, v49, .int .i64 tj, .int .i64 (p + tj), v52, rfl, ?_⟩
                  exact ⟨fun e => K0.out (hne.out 0 (by decide) e), fun e => K1.out (hne.out 1 (by decide) e), fun e => K2.out (hne.out 2 (by decide) e), fun e => K3.out (hne.out 3 (by decide) e), fun e => K4.out (hne.out 4 (by decide) e), fun e => K5.out (hne.out 5 (by decide) e), fun e => K6.out (hne.out 6 (by decide) e), fun e => K7.out (hne.out 7 (by decide) e), fun e => K8.out (hne.out 8 (by decide) e), fun e => K9.out (hne.out 9 (by decide) e), fun e => K10.out (hne.out 10 (by decide) e), fun e => K11.out (hne.out 11 (by decide) e), fun e => K12.out (hne.out 12 (by decide) e), fun e => K13.out (hne.out 13 (by decide) e), fun e => K14.out (hne.out 14 (by decide) e), fun e => K15.out (hne.out 15 (by decide) e), fun e => K16.out (hne.out 16 (by decide) e), fun _ => rfl, fun e => K18.out (hne.out 18 (by decide) e), hB⟩
                · cases ho
                  have d0 := hd ⟨0, .data⟩ (by simp) rfl
                  have d1 := hd ⟨1, .data⟩ (by simp) rfl
                  obtain rfl := K0.out d0
                  obtain rfl := K1.out d1
                  have hk0 : (0 : Int) ≤ (k : Int) := by omega
                  have hk1 : (k : Int) < (n : Int) := by omega
                  refine wpOp_step rfl (fun K hK => ?_)
                  go_simp
                  refine hK _ _ ⟨by simpa using hz, .slice (some ⟨gs, 0, none⟩) n n, .int .i64 ↑k, v36, v37, v38, v39, v40, v41, v42, v43, v44, v45, v46, v47, v48, v49, v50, v51, .pointer (some ⟨gs, k, none⟩), rfl, ?_⟩
                  exact ⟨fun e => K0.out (hne.out 0 (by decide) e), fun e => K1.out (hne.out 1 (by decide) e), fun e => K2.out (hne.out 2 (by decide) e), fun e => K3.out (hne.out 3 (by decide) e), fun e => K4.out (hne.out 4 (by decide) e), fun e => K5.out (hne.out 5 (by decide) e), fun e => K6.out (hne.out 6 (by decide) e), fun e => K7.out (hne.out 7 (by decide) e), fun e => K8.out (hne.out 8 (by decide) e), fun e => K9.out (hne.out 9 (by decide) e), fun e => K10.out (hne.out 10 (by decide) e), fun e => K11.out (hne.out 11 (by decide) e), fun e => K12.out (hne.out 12 (by decide) e), fun e => K13.out (hne.out 13 (by decide) e), fun e => K14.out (hne.out 14 (by decide) e), fun e => K15.out (hne.out 15 (by decide) e), fun e => K16.out (hne.out 16 (by decide) e), fun e => K17.out (hne.out 17 (by decide) e), fun _ => rfl, hB⟩
              case hl =>
                rintro listed aq wx ⟨hz, v34, v35, v36, v37, v38, v39, v40, v41, v42, v43, v44, v45, v46, v47, v48, v49, v50, v51, v52, rfl, hII⟩ hall
                have K0 := Lib.hid hII.1
                have K1 := Lib.hid hII.2.1
                have K2 := Lib.hid hII.2.2.1
                have K3 := Lib.hid hII.2.2.2.1
                have K4 := Lib.hid hII.2.2.2.2.1
                have K5 := Lib.hid hII.2.2.2.2.2.1
                have K6 := Lib.hid hII.2.2.2.2.2.2.1
                have K7 := Lib.hid hII.2.2.2.2.2.2.2.1
                have K8 := Lib.hid hII.2.2.2.2.2.2.2.2.1
                have K9 := Lib.hid hII.2.2.2.2.2.2.2.2.2.1
                have K10 := Lib.hid hII.2.2.2.2.2.2.2.2.2.2.1
                have K11 := Lib.hid hII.2.2.2.2.2.2.2.2.2.2.2.1
                have K12 := Lib.hid hII.2.2.2.2.2.2.2.2.2.2.2.2.1
                have K13 := Lib.hid hII.2.2.2.2.2.2.2.2.2.2.2.2.2.1
                have K14 := Lib.hid hII.2.2.2.2.2.2.2.2.2.2.2.2.2.2.1
                have K15 := Lib.hid hII.2.2.2.2.2.2.2.2.2.2.2.2.2.2.2.1
                have K16 := Lib.hid hII.2.2.2.2.2.2.2.2.2.2.2.2.2.2.2.2.1
                have K17 := Lib.hid hII.2.2.2.2.2.2.2.2.2.2.2.2.2.2.2.2.2.1
                have K18 := Lib.hid hII.2.2.2.2.2.2.2.2.2.2.2.2.2.2.2.2.2.2.1
                have hB : Below wq.heap.size wq wx := hII.2.2.2.2.2.2.2.2.2.2.2.2.2.2.2.2.2.2.2
                clear hII
                obtain rfl := K0.out (hall 0 (by decide))
                obtain rfl := K1.out (hall 1 (by decide))
                obtain rfl := K2.out (hall 2 (by decide))
                obtain rfl := K3.out (hall 3 (by decide))
                obtain rfl := K4.out (hall 4 (by decide))
                obtain rfl := K5.out (hall 5 (by decide))
                obtain rfl := K6.out (hall 6 (by decide))
                obtain rfl := K7.out (hall 7 (by decide))
                obtain rfl := K8.out (hall 8 (by decide))
                obtain rfl := K9.out (hall 9 (by decide))
                obtain rfl := K10.out (hall 10 (by decide))
                obtain rfl := K11.out (hall 11 (by decide))
                obtain rfl := K12.out (hall 12 (by decide))
                obtain rfl := K13.out (hall 13 (by decide))
                obtain rfl := K14.out (hall 14 (by decide))
                obtain rfl := K15.out (hall 15 (by decide))
                obtain rfl := K16.out (hall 16 (by decide))
                obtain rfl := K17.out (hall 17 (by decide))
                obtain rfl := K18.out (hall 18 (by decide))
                clear hall K0 K1 K2 K3 K4 K5 K6 K7 K8 K9 K10 K11 K12 K13 K14 K15 K16 K17 K18
                have e0 := (hOk.out wx hB).2.1
                have f0 := (hHq.out.kept hB).frozen k
                refine wpOp_step rfl (fun K0 hK0 => ?_)
                go_simp
                refine hK0 _ _ ?_
                clear hK0
                have hN := Lib.hid ((hHq.out.kept hB).put k (.int .i64 (p + tj)))
                have hWn := Lib.hid ((hWq.out.kept hB).far (p := ⟨gs, k, none⟩) hne (.int .i64 (p + tj)))
                have hBn := Lib.hid ((hBq.out.trans (hB.mono hzq)).setCell (p := ⟨gs, k, none⟩) hz1 (.int .i64 (p + tj)))
                clear hB
                go_wp2_with fail
                exact ⟨⟨_, _, hN.out, hFq.out.set hlt _, hBn.out, hWn.out, .inr (.inr (.inr ⟨rfl, hP2.out⟩))⟩, by simp [intOf]⟩
            · have hX := Lib.hid (show p = csum ds k by rw [hCv.out, hEq.out, hp, Int.zero_add]; rfl)
              clear hp
              go_wp2_with fail
              exact ⟨⟨k + 1, _, by omega, by go_num, hHq.out, hFq.out.next hX.out, hBq.out⟩, by simp [intOf]; omega⟩
      · obtain rfl : n = k := by omega
        have hD := Lib.hid hFill.out.done
        clear hhas hfill hb
        go_wp2_with fail
        go_ret
        exact ⟨_, rfl, by rw [hR.out]; exact IOwn.of_has hHas.out hD.out (by simp) hz1 (by unfold maxLen; omega), hB.out⟩
end Go.Proofs.Ytghkpmafocacoaa
