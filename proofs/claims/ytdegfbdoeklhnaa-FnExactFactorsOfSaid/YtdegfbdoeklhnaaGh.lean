/- Factors: lists of them in the exact laws: opened, counted, compared. -/
import Derived.Test.YtdegfbdoeklhnaaFl
import Derived.Test.YtdegfbdoeklhnaaGf
import Derived.Test.YtdegfbdoeklhnaaKt
namespace Go.Proofs.Ytdegfbdoeklhnaa
set_option maxRecDepth 100000
set_option linter.unusedVariables false
open Go.RowKit

/-- The rows of a list of factors. -/
def rowsF (Fs : List Fac) : List (List Int) := Fs.flatMap fun F => [F.vs, F.ns]
theorem rowsF_cons (F : Fac) (Fs : List Fac) : rowsF (F :: Fs) = F.vs :: F.ns :: rowsF Fs := rfl
theorem rowsF_len : ∀ Fs : List Fac, (rowsF Fs).length = Fs.length * 2
  | [] => rfl
  | F :: r => by
    rw [rowsF_cons, List.length_cons, List.length_cons, List.length_cons, rowsF_len r]
    omega
theorem rowsF_get : ∀ {Fs : List Fac} {k : Nat} {F : Fac}, Fs[k]? = some F → (rowsF Fs)[k * 2]? = some F.vs ∧ (rowsF Fs)[k * 2 + 1]? = some F.ns
  | [], k, F, h => by simp at h
  | H :: r, 0, F, h => by
    have e : H = F := by simpa using h
    subst e
    exact ⟨rfl, rfl⟩
  | H :: r, k + 1, F, h => by
    have ih := rowsF_get (Fs := r) (k := k) (F := F) (by simpa using h)
    have e1 : (k + 1) * 2 = k * 2 + 1 + 1 := by omega
    rw [rowsF_cons, e1, List.getElem?_cons_succ, List.getElem?_cons_succ, List.getElem?_cons_succ, List.getElem?_cons_succ]
    exact ih
theorem rowsF_mem {Fs : List Fac} {ds : List Int} (h : ds ∈ rowsF Fs) : ∃ F ∈ Fs, ds = F.vs ∨ ds = F.ns := by
  obtain ⟨F, hF, hd⟩ := List.mem_flatMap.1 h
  refine ⟨F, hF, ?_⟩
  simpa using hd
/-- How many numbers the first factors hold. -/
def offF (Fs : List Fac) (k : Nat) : Nat := ((Fs.take k).map fun F => F.vs.length + F.ns.length).sum
theorem offF_succ {Fs : List Fac} {k : Nat} {F : Fac} (h : Fs[k]? = some F) : offF Fs (k + 1) = offF Fs k + (F.vs.length + F.ns.length) := by
  unfold offF
  have l1 := (List.getElem?_eq_some_iff.1 h).1
  rw [List.take_succ_eq_append_getElem l1, List.map_append, List.sum_append, (List.getElem?_eq_some_iff.1 h).2]
  simp
theorem offF_mono (Fs : List Fac) : ∀ d k : Nat, offF Fs k ≤ offF Fs (k + d)
  | 0, k => Nat.le_refl _
  | d + 1, k => by
    have ih := offF_mono Fs d k
    cases h : Fs[k + d]? with
    | none =>
      have hl := List.getElem?_eq_none_iff.1 h
      have e : offF Fs (k + (d + 1)) = offF Fs (k + d) := by
        unfold offF
        rw [List.take_of_length_le (by omega), List.take_of_length_le hl]
      rw [e]
      exact ih
    | some F =>
      have := offF_succ h
      have e : k + (d + 1) = k + d + 1 := by omega
      rw [e, this]
      omega
/-- A list that the law takes: all of it is small. -/
theorem offF_small {Fs : List Fac} {N : Nat} (h : offF Fs Fs.length ≤ N) : ∀ F ∈ Fs, F.vs.length ≤ N ∧ F.ns.length ≤ N := fun F hF => by
  obtain ⟨k, hk, rfl⟩ := List.getElem_of_mem hF
  have h1 := offF_succ (List.getElem?_eq_getElem hk)
  have h2 := offF_mono Fs (Fs.length - (k + 1)) (k + 1)
  have e : k + 1 + (Fs.length - (k + 1)) = Fs.length := by omega
  rw [e] at h2
  omega
theorem FLst.bd {w : World} {B n k : Nat} {A : Option Addr} {Fs : List Fac} (h : FLst w B A n Fs) (hs : smallF Fs) (hk : k < n) :
    ∃ (g off : Nat) (F : Fac) (A1 : Option Addr) (n1 c1 : Nat) (A2 : Option Addr) (n2 c2 : Nat), A = some ⟨g, off, none⟩ ∧ g < B ∧ Fs[k]? = some F ∧ w.cell? ⟨g, off + k * 2, none⟩ = some (.slice A1 n1 c1) ∧ w.cell? ⟨g, off + k * 2 + 1, none⟩ = some (.slice A2 n2 c2) ∧ FacW w B A1 n1 A2 n2 F ∧ n1 ≤ maxLen ∧ n2 ≤ maxLen ∧ F.vs.length = n1 ∧ F.ns.length = n2 := by
  obtain ⟨g, off, F, A1, n1, c1, A2, n2, c2, e, hg, hF, h1, h2, h3⟩ := h.at_ hk
  have := hs F (List.mem_of_getElem? hF)
  exact ⟨g, off, F, A1, n1, c1, A2, n2, c2, e, hg, hF, h1, h2, h3, by have := h3.1.1; omega, by have := h3.2.1; omega, h3.1.1, h3.2.1⟩
set_option maxHeartbeats 1000000 in
theorem szFactorS_yes (A : Option Addr) (n c : Nat) (Fs : List Fac) (w : World) (h : FLst w w.heap.size A n Fs) (hs : smallF Fs) (hn : n ≤ maxLen) (h0 : n + offF Fs n ≤ 1048576) :
    Calls Try.prog 30 #[.slice A n c, .int .i64 1048576] w fun e w' => e = .returned (.int .i64 (1048576 - n - offF Fs n)) ∧ Below w.heap.size w w' := by
  have hI := Lib.hid h
  have hSm := Lib.hid hs
  have hw0 : IntKind.i64.wrap (1048576 - (n : Int)) = 1048576 - n := by rw [IntKind.wrap_i64]; omega
  have hw1 : wrap64 (1048576 - (n : Int)) = 1048576 - n := by unfold wrap64; omega
  have hnn : ¬ (1048576 - (n : Int) < 0) := by omega
  unfold maxLen at hn
  clear h hs
  go_enter Try.func30, Try.ntmps30
  go_wp2_with fail
  go_loopg [1, 5] n (fun gn l v wr => ∃ k : Nat, k ≤ n ∧ gn = n - k ∧ v = .int .i64 k ∧ l = .int .i64 (1048576 - (n : Int) - offF Fs k) ∧ Below w.heap.size w wr)
  case atStart => exact ⟨0, Nat.zero_le _, rfl, rfl, by simp [offF], Below.refl _ _⟩
  case round =>
    obtain ⟨k, hk, hgn, rfl, rfl, hB⟩ := hrel
    have hgk : gk = n - k := hgn
    have hBh := Lib.hid hB
    clear hgn
    by_cases hlt : k < n
    · obtain ⟨gl, off, F, B1, m1, e1, B2, m2, e2, rfl, hgl, hFk, cl1, cl2, hFW, hb1, hb2, hl1, hl2⟩ := (hI.out.below hB).bd hSm.out hlt
      have hk0 : (0 : Int) ≤ (k : Int) := by omega
      have hk1 : (k : Int) < (n : Int) := by omega
      have hos := offF_succ hFk
      have hmo := offF_mono Fs (n - (k + 1)) (k + 1)
      rw [show k + 1 + (n - (k + 1)) = n by omega] at hmo
      have hosh := Lib.hid (show (1048576 - (n : Int) - (offF Fs k : Int) - (m1 : Int) - (m2 : Int)) = 1048576 - (n : Int) - (offF Fs (k + 1) : Int) by omega)
      have cZ := Lib.hid (fun wx => szFactor_yes B1 B2 m1 e1 m2 e2 (1048576 - (n : Int) - offF Fs k) wx hb1 hb2 (by omega) (by omega))
      have hnx : ¬ (1048576 - (n : Int) - (offF Fs k : Int) - (m1 : Int) - (m2 : Int) < 0) := by omega
      clear hFk hos hmo hB
      go_wp2_with fail
      refine (cZ.out _).mono ?_
      rintro e w2 ⟨rfl, hb2⟩
      have hB2 := Lib.hid (hBh.out.trans (hb2.mono hBh.out.size))
      clear hb2
      go_wp2_with fail
      go_roundg (n - (k + 1))
      case measure => omega
      case rel => exact ⟨k + 1, by omega, rfl, by go_num, by rw [hosh.out], hB2.out⟩
    · obtain rfl : k = n := by omega
      go_wp2_with fail
      go_ret
      exact ⟨rfl, hBh.out⟩
set_option maxHeartbeats 1000000 in
theorem szFactorS_no (A : Option Addr) (n c : Nat) (Fs : List Fac) (w : World) (h : FLst w w.heap.size A n Fs) (hs : smallF Fs) (hn : n ≤ maxLen) (h0 : 1048576 < n + offF Fs n) :
    Calls Try.prog 30 #[.slice A n c, .int .i64 1048576] w fun e w' => e = .returned (.int .i64 (-1)) ∧ Below w.heap.size w w' := by
  have hI := Lib.hid h
  have hSm := Lib.hid hs
  have hw0 : IntKind.i64.wrap (1048576 - (n : Int)) = 1048576 - n := by unfold maxLen at hn; rw [IntKind.wrap_i64]; omega
  have hw1 : wrap64 (1048576 - (n : Int)) = 1048576 - n := by unfold maxLen at hn; unfold wrap64; omega
  unfold maxLen at hn
  clear h hs
  by_cases hn2 : 1048576 - (n : Int) < 0
  · go_enter Try.func30, Try.ntmps30
    go_wp2_with fail
    go_ret
    exact ⟨rfl, Below.refl _ _⟩
  · go_enter Try.func30, Try.ntmps30
    go_wp2_with fail
    go_loopg [1, 5] n (fun gn l v wr => ∃ k : Nat, k ≤ n ∧ gn = n - k ∧ v = .int .i64 k ∧ l = .int .i64 (1048576 - (n : Int) - offF Fs k) ∧ (0 ≤ 1048576 - (n : Int) - offF Fs k) ∧ Below w.heap.size w wr)
    case atStart => exact ⟨0, Nat.zero_le _, rfl, rfl, by simp [offF], by simp [offF]; omega, Below.refl _ _⟩
    case round =>
      obtain ⟨k, hk, hgn, rfl, rfl, hpos, hB⟩ := hrel
      have hgk : gk = n - k := hgn
      have hBh := Lib.hid hB
      clear hgn
      by_cases hlt : k < n
      · obtain ⟨gl, off, F, B1, m1, e1, B2, m2, e2, rfl, hgl, hFk, cl1, cl2, hFW, hb1, hb2, hl1, hl2⟩ := (hI.out.below hB).bd hSm.out hlt
        have hk0 : (0 : Int) ≤ (k : Int) := by omega
        have hk1 : (k : Int) < (n : Int) := by omega
        have hos := offF_succ hFk
        by_cases hgo : (m1 : Int) + m2 ≤ 1048576 - (n : Int) - offF Fs k
        · have hosh := Lib.hid (show (1048576 - (n : Int) - (offF Fs k : Int) - (m1 : Int) - (m2 : Int)) = 1048576 - (n : Int) - (offF Fs (k + 1) : Int) by omega)
          have hp2 := Lib.hid (show 0 ≤ 1048576 - (n : Int) - (offF Fs (k + 1) : Int) by omega)
          have cZ := Lib.hid (fun wx => szFactor_yes B1 B2 m1 e1 m2 e2 (1048576 - (n : Int) - offF Fs k) wx hb1 hb2 hgo (by omega))
          have hnx : ¬ (1048576 - (n : Int) - (offF Fs k : Int) - (m1 : Int) - (m2 : Int) < 0) := by omega
          clear hFk hos hB
          go_wp2_with fail
          refine (cZ.out _).mono ?_
          rintro e w2 ⟨rfl, hb2⟩
          have hB2 := Lib.hid (hBh.out.trans (hb2.mono hBh.out.size))
          clear hb2
          go_wp2_with fail
          go_roundg (n - (k + 1))
          case measure => omega
          case rel => exact ⟨k + 1, by omega, rfl, by go_num, by rw [hosh.out], hp2.out, hB2.out⟩
        · have cZ := Lib.hid (fun wx => szFactor_no B1 B2 m1 e1 m2 e2 (1048576 - (n : Int) - offF Fs k) wx hb1 hb2 hpos (by omega) (by omega))
          clear hFk hos hB
          go_wp2_with fail
          refine (cZ.out _).mono ?_
          rintro e w2 ⟨rfl, hb2⟩
          have hB2 := Lib.hid (hBh.out.trans (hb2.mono hBh.out.size))
          clear hb2
          go_wp2_with fail
          go_ret
          exact ⟨rfl, hB2.out⟩
      · obtain rfl : k = n := by omega
        omega
end Go.Proofs.Ytdegfbdoeklhnaa

namespace Go.Proofs.Ytdegfbdoeklhnaa
set_option maxRecDepth 100000
set_option linter.unusedVariables false
open Go.ChangeShapes Go.WideShapes Go.RowKit Go.Deep
section
variable {H : Type} {enc : TypeId × Value → H} {w : World} {base : Nat}
/-- Cells that are a factor. -/
theorem factor_of_trod {fuel : Nat} {cs : List Value} {x : DataW H × List MemPlace} (h : DataW.trod enc Try.prog w 0 (fun _ => true) true fuel 24 cs = some x) :
    ∃ (A1 : Option Addr) (n1 c1 : Nat) (A2 : Option Addr) (n2 c2 : Nat) (F : Fac), cs = [.slice A1 n1 c1, .slice A2 n2 c2] ∧ n1 ≤ maxLen ∧ n2 ≤ maxLen ∧ FacW w w.heap.size A1 n1 A2 n2 F := by
  obtain ⟨xs, n, _, _, hl, hx, hf⟩ := DataW.trod_struct Try.underlying24 h
  rw [cells_lawFac] at hl
  match cs, hl, hf with
  | [c0, c1], _, hf =>
    match xs, hx, hf with
    | [y0, y1], _, hf =>
      have f0 : DataW.trod enc Try.prog w 0 (fun _ => true) true n 22 ([c0, c1].take (Try.prog.cellsOf 22)) = some y0 := hf 0 _ rfl
      have f1 : DataW.trod enc Try.prog w 0 (fun _ => true) true n 22 ([c1].take (Try.prog.cellsOf 22)) = some y1 := hf 1 _ rfl
      rw [cells_ints] at f0 f1
      obtain ⟨A1, n1, k1, d1, rfl, a1, a2, a3⟩ := ints_of_trod f0
      obtain ⟨A2, n2, k2, d2, rfl, b1, b2, b3⟩ := ints_of_trod f1
      exact ⟨A1, n1, k1, A2, n2, k2, ⟨d1, d2⟩, rfl, by omega, by omega, a3, b3⟩
/-- A parameter that is a list of factors. -/
theorem open_factors {r : Reach} {b0 : Nat} {v : Value} {d : DataW H} {p : List MemPlace} (hv : Value.okWide Try.prog w r b0 39 v) (h : DataW.Trod enc Try.prog w 0 (fun _ => true) true 39 v d p) :
    ∃ (A : Option Addr) (n c : Nat) (Fs : List Fac), v = .slice A n c ∧ n ≤ c ∧ c ≤ maxLen ∧ FLst w w.heap.size A n Fs ∧ smallF Fs := by
  obtain ⟨A, n, c, rfl⟩ := okWide_slice Try.underlying39 hv
  obtain ⟨fuel, hf⟩ := h
  rcases open_slice Try.underlying39 hf with ⟨hcs, _⟩ | ⟨a, n', c', m, fu, D, Pl, hcs, _, hl, hm, hmm, _, hi⟩
  · simp [Value.cells] at hcs
    obtain ⟨rfl, rfl, rfl⟩ := hcs
    exact ⟨none, 0, 0, [], rfl, Nat.le_refl _, by simp [maxLen], ⟨rfl, fun h => absurd h (by omega)⟩, fun F hF => by cases hF⟩
  · simp [Value.cells] at hcs
    obtain ⟨rfl, rfl, rfl⟩ := hcs
    have hmc : m = c := by simpa using hmm
    subst hmc
    have hex : ∀ i, ∃ F : Fac, i < n → ∃ (A1 : Option Addr) (n1 c1 : Nat) (A2 : Option Addr) (n2 c2 : Nat), w.cell? (a.add (i * 2)) = some (.slice A1 n1 c1) ∧ w.cell? (a.add (i * 2 + 1)) = some (.slice A2 n2 c2) ∧ n1 ≤ maxLen ∧ n2 ≤ maxLen ∧ FacW w w.heap.size A1 n1 A2 n2 F := by
      intro i
      by_cases hin : i < n
      · obtain ⟨cs', hc, ht⟩ := hi i (by omega)
        rw [cells_lawFac] at hc
        obtain ⟨A1, n1, k1, A2, n2, k2, F, rfl, b1, b2, b3⟩ := factor_of_trod ht
        obtain ⟨_, hlen, hat⟩ := World.cells?_some hc
        refine ⟨F, fun _ => ⟨A1, n1, k1, A2, n2, k2, ?_, ?_, b1, b2, b3⟩⟩
        · have := hat 0 (by decide)
          rw [Go.Deep.add_add] at this
          exact this
        · have := hat 1 (by decide)
          rw [Go.Deep.add_add] at this
          exact this
      · exact ⟨⟨[], []⟩, fun h => absurd h hin⟩
    obtain ⟨f, hfx⟩ := Classical.axiomOfChoice hex
    refine ⟨some a, n, m, (List.range n).map f, rfl, hl, hm, ⟨by simp, fun hn => ?_⟩, fun F hF => ?_⟩
    · obtain ⟨g, off, spot⟩ := a
      obtain ⟨A1, n1, k1, A2, n2, k2, h0, _, _⟩ := hfx 0 hn
      have hspot : spot = none := by simpa [Addr.add] using World.cell?_spot h0
      subst hspot
      have hlt := World.block_lt_of_cell? w _ h0
      refine ⟨g, off, rfl, by simpa [Addr.add] using hlt, fun k F hF => ?_⟩
      rw [List.getElem?_map] at hF
      by_cases hk : k < n
      · rw [List.getElem?_range hk] at hF
        have hF' : f k = F := by simpa using hF
        subst hF'
        obtain ⟨B1, m1, e1, B2, m2, e2, g1, g2, _, _, g3⟩ := hfx k hk
        refine ⟨B1, m1, e1, B2, m2, e2, ?_, ?_, g3⟩
        · rw [← g1]
          congr 1
          unfold Addr.add
          split
          · (rename_i h0; simp; try omega)
          · (simp; try omega)
        · rw [← g2]
          congr 1
      · rw [List.getElem?_eq_none (by simp; omega)] at hF
        cases hF
    · obtain ⟨k, hk, rfl⟩ := List.mem_map.1 hF
      obtain ⟨B1, m1, e1, B2, m2, e2, _, _, b1, b2, g3⟩ := hfx k (List.mem_range.1 hk)
      have h1 := g3.1.1
      have h2 := g3.2.1
      omega
end
end Go.Proofs.Ytdegfbdoeklhnaa
