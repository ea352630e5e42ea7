/- Lists of statements in memory. -/
import Derived.Test.YtjokiminlplbcaaStS
import Derived.Test.YtjokiminlplbcaaUnr
import Derived.Deep.LoopGhost
namespace Go.Proofs.Ytjokiminlplbcaa
set_option maxRecDepth 100000
open Go.RowKit

/-- The seven cells from o on in block g are a statement. -/
def StAt (w : World) (g o : Nat) (s : St) : Prop := ∀ j u, s.cells[j]? = some u → w.cell? ⟨g, o + j, none⟩ = some u

theorem StAt.open_ {w : World} {g o : Nat} {s : St} (h : StAt w g o s) :
    w.cell? ⟨g, o, none⟩ = some (.int .i64 s.k) ∧ w.cell? ⟨g, o + 1, none⟩ = some (.int .i64 s.a) ∧ w.cell? ⟨g, o + 2, none⟩ = some (.int .i64 s.b) ∧ w.cell? ⟨g, o + 3, none⟩ = some (.int .i64 s.c) ∧
    w.cell? ⟨g, o + 4, none⟩ = some (.int .i64 s.u) ∧ w.cell? ⟨g, o + 5, none⟩ = some (.int .i64 s.v) ∧ w.cell? ⟨g, o + 6, none⟩ = some (.int .i64 s.x) :=
  ⟨h 0 _ rfl, h 1 _ rfl, h 2 _ rfl, h 3 _ rfl, h 4 _ rfl, h 5 _ rfl, h 6 _ rfl⟩

/-- A slice's value reads as a list of statements, all below block B. -/
def Lst (w : World) (B : Nat) (A : Option Addr) (n : Nat) (ps : List St) : Prop :=
  ps.length = n ∧ (0 < n → ∃ g off, A = some ⟨g, off, none⟩ ∧ g < B ∧ ∀ k s, ps[k]? = some s → StAt w g (off + k * 7) s)

theorem StAt.keep {w w' : World} {g o : Nat} {s : St} (h : StAt w g o s) (hk : ∀ p : Addr, p.block = g → w'.cell? p = w.cell? p) : StAt w' g o s := fun j u hu => (hk _ rfl).trans (h j u hu)
theorem Lst.keep {w w' : World} {B : Nat} {A : Option Addr} {n : Nat} {ps : List St} (h : Lst w B A n ps) (hk : ∀ p : Addr, p.block < B → w'.cell? p = w.cell? p) : Lst w' B A n ps :=
  ⟨h.1, fun hn => by
    obtain ⟨g, off, e, hg, hc⟩ := h.2 hn
    exact ⟨g, off, e, hg, fun k s hs => (hc k s hs).keep fun p hp => hk p (by omega)⟩⟩
theorem Lst.below {w w' : World} {B : Nat} {A : Option Addr} {n : Nat} {ps : List St} (h : Lst w B A n ps) (hb : Below B w w') : Lst w' B A n ps := h.keep fun _ hp => hb.cell hp
theorem Lst.more {w : World} {B B' : Nat} {A : Option Addr} {n : Nat} {ps : List St} (h : Lst w B A n ps) (hB : B ≤ B') : Lst w B' A n ps :=
  ⟨h.1, fun hn => by
    obtain ⟨g, off, e, hg, hc⟩ := h.2 hn
    exact ⟨g, off, e, by omega, hc⟩⟩
theorem Lst.at_ {w : World} {B : Nat} {A : Option Addr} {n k : Nat} {ps : List St} (h : Lst w B A n ps) (hk : k < n) :
    ∃ (g off : Nat) (s : St), A = some ⟨g, off, none⟩ ∧ g < B ∧ ps[k]? = some s ∧ StAt w g (off + k * 7) s := by
  obtain ⟨g, off, e, hg, hc⟩ := h.2 (by omega)
  have hl : k < ps.length := by have := h.1; omega
  exact ⟨g, off, ps[k], e, hg, List.getElem?_eq_getElem hl, hc k _ (List.getElem?_eq_getElem hl)⟩

theorem all_take_succ {ps : List St} {k : Nat} {s : St} (h : ps[k]? = some s) (f : St → Bool) : (ps.take (k + 1)).all f = ((ps.take k).all f && f s) := by
  have hl : k < ps.length := (List.getElem?_eq_some_iff.1 h).1
  rw [List.take_succ_eq_append_getElem hl, List.all_append]
  have : ps[k] = s := (List.getElem?_eq_some_iff.1 h).2
  simp [this]
theorem all_no {ps : List St} {k : Nat} {s : St} (h : ps[k]? = some s) {f : St → Bool} (hf : f s = false) : ps.all f = false := by
  rw [List.all_eq_false]
  exact ⟨s, List.mem_of_getElem? h, by simp [hf]⟩

theorem StmtOk_st (s : St) (w : World) :
    Calls Try.prog 112 #[.agg #[.int .i64 s.k, .int .i64 s.a, .int .i64 s.b, .int .i64 s.c, .int .i64 s.u, .int .i64 s.v, .int .i64 s.x]] w fun e w' => e = .returned (.bool s.ok) ∧ Below w.heap.size w w' := StmtOk_any s.k s.a s.b s.c s.u s.v s.x w
theorem specStmtOk_st (s : St) (w : World) :
    Calls Try.prog 93 #[.agg #[.int .i64 s.k, .int .i64 s.a, .int .i64 s.b, .int .i64 s.c, .int .i64 s.u, .int .i64 s.v, .int .i64 s.x]] w fun e w' => e = .returned (.bool s.ok) ∧ Below w.heap.size w w' := specStmtOk_any s.k s.a s.b s.c s.u s.v s.x w

theorem stmtsOk_any (A : Option Addr) (n c : Nat) (ps : List St) (w : World) (h : Lst w w.heap.size A n ps) (hn : n ≤ maxLen) :
    Calls Try.prog 94 #[.slice A n c] w fun e w' => e = .returned (.bool (ps.all St.ok)) ∧ Below w.heap.size w w' := by
  unfold maxLen at hn
  have hL := Lib.hid h.1
  have hH := Lib.hid h
  clear h
  go_enter Try.func94, Try.ntmps94
  go_wp2
  go_loopw [7] (fun i wr => ∃ k : Nat, k ≤ n ∧ i = .int .i64 k ∧ (ps.take k).all St.ok = true ∧ Below w.heap.size w wr) (fun i _ => n - (intOf i).toNat)
  case atStart => exact ⟨0, Nat.zero_le _, rfl, by simp, Below.refl _ _⟩
  case round =>
    obtain ⟨k, hk, rfl, hall, hb⟩ := hrel
    have hAll := Lib.hid hall
    clear hall
    by_cases hlt : k < n
    · obtain ⟨g, off, s, rfl, hg, hs, hat⟩ := (hH.out.below hb).at_ hlt
      obtain ⟨c0, c1, c2, c3, c4, c5, c6⟩ := hat.open_
      have hS := Lib.hid hs
      have hz := hb.size
      clear hs hat
      cases hok : s.ok
      · have hR := Lib.hid (all_no hS.out hok)
        go_wp2_with (go_at_call 112; refine (StmtOk_st s _).mono ?_; rw [hok]; rintro e w1 ⟨rfl, hb1⟩)
        go_ret
        exact ⟨ret_bool hR.out, (hb.alloc hz _).trans (hb1.mono (by simp; omega))⟩
      · have hR := Lib.hid ((all_take_succ hS.out St.ok).trans (by rw [hAll.out, hok, Bool.and_self]))
        go_wp2_with (go_at_call 112; refine (StmtOk_st s _).mono ?_; rw [hok]; rintro e w1 ⟨rfl, hb1⟩)
        go_roundw
        case rel => exact ⟨k + 1, by omega, by go_num, hR.out, (hb.alloc hz _).trans (hb1.mono (by simp; omega))⟩
        case measure => (simp [intOf]; try omega)
    · obtain rfl : k = n := by omega
      have hR := Lib.hid (show ps.all St.ok = true by have := hAll.out; rwa [List.take_of_length_le (by rw [hL.out]; omega)] at this)
      go_wp2
      go_ret
      exact ⟨ret_bool hR.out, hb⟩

theorem bodyOk_any (A : Option Addr) (n c : Nat) (ps : List St) (m : Int) (w : World) (h : Lst w w.heap.size A n ps) (hn : n ≤ c) (hc : c ≤ maxLen) (hm : 0 ≤ m) :
    Calls Try.prog 95 #[.slice A n c, .int .i64 m] w fun e w' => e = .returned (.bool (decide (m ≤ n) && (ps.take m.toNat).all St.notLoop)) ∧ Below w.heap.size w w' := by
  unfold maxLen at hc
  have hL := Lib.hid h.1
  have hH := Lib.hid h
  clear h
  obtain ⟨m, rfl⟩ : ∃ k : Nat, m = k := ⟨m.toNat, by omega⟩
  rw [Int.toNat_natCast]
  by_cases hmn : n < m
  · have hR := Lib.hid (show (decide ((m : Int) ≤ n) && (ps.take m).all St.notLoop) = false by rw [decide_eq_false (by omega)]; rfl)
    go_enter Try.func95, Try.ntmps95
    go_wp2
    go_ret
    exact ⟨ret_bool hR.out, Below.refl _ _⟩
  · have hR := Lib.hid (show (decide ((m : Int) ≤ n) && (ps.take m).all St.notLoop) = (ps.take m).all St.notLoop by rw [decide_eq_true (by omega)]; rfl)
    go_enter Try.func95, Try.ntmps95
    go_wp2
    go_loopw [15] (fun i wr => ∃ k : Nat, k ≤ m ∧ i = .int .i64 k ∧ (ps.take k).all St.notLoop = true ∧ Below w.heap.size w wr) (fun i _ => m - (intOf i).toNat)
    case atStart => exact ⟨0, Nat.zero_le _, rfl, by simp, Below.refl _ _⟩
    case round =>
      obtain ⟨k, hk, rfl, hall, hb⟩ := hrel
      have hAll := Lib.hid hall
      clear hall
      by_cases hlt : k < m
      · obtain ⟨g, off, s, rfl, hg, hs, hat⟩ := (hH.out.below hb).at_ (show k < n by omega)
        obtain ⟨c0, c1, c2, c3, c4, c5, c6⟩ := hat.open_
        have hS := Lib.hid hs
        have hz := hb.size
        clear hs hat
        cases hnl : s.notLoop
        · have h7 : (s.k == 7) = true := by unfold St.notLoop at hnl; cases h : (s.k == 7) <;> simp_all
          have hR2 := Lib.hid (show (ps.take m).all St.notLoop = false from all_no (k := k) (by rw [List.getElem?_take, if_pos hlt]; exact hS.out) hnl)
          go_wp2
          go_ret
          exact ⟨ret_bool (hR.out.trans hR2.out), hb.alloc hz _⟩
        · have h7 : (s.k == 7) = false := by unfold St.notLoop at hnl; cases h : (s.k == 7) <;> simp_all
          have hR2 := Lib.hid ((all_take_succ hS.out St.notLoop).trans (by rw [hAll.out, hnl, Bool.and_self]))
          go_wp2
          go_roundw
          case rel => exact ⟨k + 1, by omega, by go_num, hR2.out, hb.alloc hz _⟩
          case measure => (simp [intOf]; try omega)
      · obtain rfl : k = m := by omega
        go_wp2
        go_ret
        exact ⟨ret_bool (hR.out.trans hAll.out), hb⟩
end Go.Proofs.Ytjokiminlplbcaa
