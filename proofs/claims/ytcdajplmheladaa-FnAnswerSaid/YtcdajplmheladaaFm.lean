/- The model's walk through all traces. The model's TracesOf. -/
import Derived.Test.YtcdajplmheladaaRt
import Derived.Test.YtcdajplmheladaaNm
import Derived.Test.YtcdajplmheladaaTx
import Derived.Deep.AppendLies
import Derived.Deep.RegionLaw
namespace Go.Proofs.Ytcdajplmheladaa
set_option maxRecDepth 100000
set_option linter.unusedVariables false
open Go.RowKit

theorem lv_len : ∀ (os : List St) (k : Nat) (st wt : Int), (lv os k st wt).length ≤ 3 ^ os.length
  | [], k, st, wt => by simp [lv]
  | s :: r, k + 1, st, wt => by
    rw [lv]
    have := lv_len r k st wt
    rw [List.length_cons, Nat.pow_succ]
    omega
  | s :: r, 0, st, wt => by
    rw [lv, List.length_cons, Nat.pow_succ]
    have hp : 0 < 3 ^ r.length := Nat.pow_pos (by decide)
    split
    · simp; omega
    · split
      · simp only [List.length_append, List.length_map]
        have h0 := lv_len r 0 (s.next st 0) (wt * s.fac (s.next st 0))
        have h1 := lv_len r 0 (s.next st 1) (wt * s.fac (s.next st 1))
        have h2 := lv_len r 0 (s.next st 2) (wt * s.fac (s.next st 2))
        omega
      · have h0 := lv_len r (s.jump st) (s.next st 0) (wt * s.fac (s.next st 0))
        omega
theorem lvR_len {os : List St} (r : Rn) (h : os.length ≤ 12) : (lvR os r).length ≤ 531441 := by
  unfold lvR
  refine Nat.le_trans (lv_len _ _ _ _) (Nat.le_trans (Nat.pow_le_pow_right (by decide) (show (os.drop r.pos).length ≤ 12 by rw [List.length_drop]; omega)) (by decide))
/-- The rows of runs. -/
def rowsOf (pre : List Int) (ls : List Leaf) : List (List Int) := (filt ls).map fun l => pre ++ l.1
theorem rowsOf_append (pre : List Int) (a b : List Leaf) : rowsOf pre (a ++ b) = rowsOf pre a ++ rowsOf pre b := by
  unfold rowsOf; rw [filt_append, List.map_append]
theorem rowsOf_map (pre q : List Int) (ls : List Leaf) : rowsOf pre (ls.map (lpre q)) = rowsOf (pre ++ q) ls := by
  unfold rowsOf
  rw [filt_map, List.map_map]
  congr 1
  funext l
  simp [lpre]
theorem rowsOf_zero (pre : List Int) (st : Int) : rowsOf pre [([], st, 0)] = [] := by
  unfold rowsOf
  rw [filt_no rfl]; rfl
theorem rowsOf_leaf (pre : List Int) {st wt : Int} (h : wt ≠ 0) : rowsOf pre [([], st, wt)] = [pre] := by
  unfold rowsOf
  rw [filt_yes h]
  simp [filt]
theorem rowsOf_len (pre : List Int) (ls : List Leaf) : (rowsOf pre ls).length ≤ ls.length := by
  unfold rowsOf filt
  rw [List.length_map]
  exact List.length_filter_le _ _

/-- The runs that draw less than d. -/
def brs (os : List St) (s : St) (r : Rn) : Nat → List Leaf
  | 0 => []
  | d + 1 => brs os s r d ++ (lvR os (Rn.step s r d)).map (lpre [(d : Int)])
theorem brs_all {os : List St} {r : Rn} {s : St} (h : os[r.pos]? = some s) (hd : s.draws = true) (hw : r.wt ≠ 0) : brs os s r 3 = lvR os r := by
  rw [lvR_draw h hd hw]
  simp [brs]
theorem brs_len {os : List St} {r : Rn} {s : St} (h : os[r.pos]? = some s) (hd : s.draws = true) (hw : r.wt ≠ 0) {d : Nat} (hlt : d < 3) : (brs os s r d).length + (lvR os (Rn.step s r d)).length ≤ (lvR os r).length := by
  rw [← brs_all h hd hw]
  obtain rfl | rfl | rfl : d = 0 ∨ d = 1 ∨ d = 2 := by omega
  all_goals simp [brs]
  all_goals omega

theorem ty_a : (133 : TypeId) ≠ 23 := by decide
theorem ty_b : (133 : TypeId) ≠ 3 := by decide
theorem ty_c : (95 : TypeId) ≠ 23 := by decide
theorem ty_d : (95 : TypeId) ≠ 133 := by decide
theorem info_row : (Try.prog.info? 23).map (fun i => (i.zero, i.size, i.bytes)) = some (some (.slice none 0 0), 1, 24) := by kernel_rfl

/-- How the walk ends. -/
def Fromd (w : World) (g m : Nat) (A : Option Addr) (c : Nat) (vo : Value) (rs : List (List Int)) (e : Ending) (w' : World) : Prop :=
  e = .returned (.tuple #[]) ∧ ∃ vo' vs', Has w' g 133 #[.slice A m c, vo'] ∧ RowsV w' (g + 1) vo' rs vs' ∧ KeptBut w w' (fun i => i = g ∨ vo.ownBlock = some i) ∧ (∀ k, vo'.ownBlock = some k → vo.ownBlock = some k ∨ w.heap.size ≤ k)

theorem Fromd.same {w w' : World} {g m : Nat} {A : Option Addr} {c : Nat} {vo : Value} {rs : List (List Int)} {vs : List Value} (hA : Has w g 133 #[.slice A m c, vo]) (hR : RowsV w (g + 1) vo rs vs) (hb : Below w.heap.size w w') : Fromd w g m A c vo rs (.returned (.tuple #[])) w' :=
  ⟨rfl, vo, vs, hA.kept hb, hR.but (KeptBut.of_below hb (fun _ => False)) (fun _ _ h => h) (fun _ _ _ _ _ h => h), KeptBut.of_below hb _, fun k hk => .inl hk⟩

set_option maxHeartbeats 20000000 in
theorem from_any (os : List St) (m : Nat) (hM : os.length = m) (hlen : m ≤ 12) (hOK : os.all St.ok = true) (hNL : ∀ x ∈ os, x.notLoop = true) (g : Nat) (A : Option Addr) (c : Nat) : ∀ (N : Nat) (r : Rn) (vo : Value) (rs : List (List Int)) (vs : List Value) (gd : Nat) (nd cd : Nat) (ds : List Int) (w : World),
    m ≤ r.pos + N → r.fit → ds.length ≤ r.pos → ds.length = nd → rs.length + (lvR os r).length ≤ 1000000 → Has w g 133 #[.slice A m c, vo] → Lst w g A m os → RowsV w (g + 1) vo rs vs → IOwn w (g + 1) (.slice (some ⟨gd, 0, none⟩) nd cd) ds →
    Calls Try.prog 131 #[.pointer (some ⟨g, 0, none⟩), .agg #[.int .i64 r.pos, .int .i64 r.st, .int .i64 r.wt], .slice (some ⟨gd, 0, none⟩) nd cd] w (Fromd w g m A c vo (rs ++ rowsOf ds (lvR os r))) := by
  intro N
  induction N using Nat.strongRecOn with
  | ind N ih =>
    intro r vo rs vs gd nd cd ds w hN hfit hdl hnd hsz hA hL hR hD
    obtain ⟨AO, co, hvo, hlo, hmo⟩ := hR.form
    subst hvo
    obtain ⟨i0, hi0, hz0, hz1', hz2'⟩ := info_parts info_row
    have hA' := Lib.hid hA
    have hL' := Lib.hid hL
    have hR' := Lib.hid hR
    have hD' := Lib.hid hD
    have hIh := Lib.hid ih
    have hgl := hA.lt
    have hrun0 := Has.new w 95 #[.int .i64 r.pos, .int .i64 r.st, .int .i64 r.wt]
    have hb0 : Below w.heap.size w (w.alloc (.cells #[.int .i64 r.pos, .int .i64 r.st, .int .i64 r.wt] 95)) := (Below.refl _ _).alloc (Nat.le_refl _) _
    clear ih hA hL hR hD
    go_enter Try.func131, Try.ntmps131
    go_wp2_with fail
    generalize hg0 : w.heap.size = G at hrun0 hgl hb0 ⊢
    have hG : G < (w.alloc (.cells #[.int .i64 r.pos, .int .i64 r.st, .int .i64 r.wt] 95)).heap.size := by simp [hg0]
    generalize w.alloc (.cells #[.int .i64 r.pos, .int .i64 r.st, .int .i64 r.wt] 95) = W3 at hrun0 hb0 hG ⊢
    have hA3 := Lib.hid (hA'.out.below hb0 hgl)
    have hg0' := Lib.hid hg0
    clear hg0
    go_loopw [] (fun wr => ∃ r' : Rn, Has wr G 95 #[.int .i64 r'.pos, .int .i64 r'.st, .int .i64 r'.wt] ∧ r'.fit ∧ lvR os r' = lvR os r ∧ r.pos ≤ r'.pos ∧ Below G W3 wr ∧ G < wr.heap.size) (fun wr => m - posAt wr G)
    case atStart => exact ⟨r, hrun0, hfit, rfl, Nat.le_refl _, Below.refl _ _, hG⟩
    case round =>
      obtain ⟨r', hrun, hf', hlv, hrp, hbr, hGr⟩ := hrel
      have hLv := Lib.hid hlv
      have hF := Lib.hid hf'
      have hw0 := hf'.2.2.1
      have hpos := posAt_of hrun
      have hgc := (hA3.out.below hbr hgl).cell
      have hcr := hrun.cell
      clear hlv hf'
      by_cases hlt : r'.pos < m
      · by_cases hwt : r'.wt = 0
        · have hRow := Lib.hid (show rs ++ rowsOf ds (lvR os r) = rs by
            rw [← hLv.out, lvR_zero hwt, hwt, rowsOf_zero, List.append_nil])
          have hwt' : r'.wt = 0 := hwt
          have hk0 : (0 : Int) ≤ (r'.pos : Int) := Int.natCast_nonneg _
          have hk1 : (r'.pos : Int) < (m : Int) := by omega
          rw [hwt'] at hcr
          clear hwt
          go_wp2_with fail
          go_quiet (fail)
          go_wp2_with fail
          go_end0
          rw [hRow.out]
          exact Fromd.same hA'.out hR'.out (below_drewN (hg0'.out ▸ (hb0.trans hbr)) _)
        · have hwt' : 0 < r'.wt := by omega
          obtain ⟨gs, off, s, rfl, hgs, hs, hat⟩ := ((hL'.out.more (show g ≤ G by omega)).below (hb0.trans hbr)).at_ hlt
          obtain ⟨c0, c1, c2, c3', c4, c5, c6⟩ := hat.open_
          have hS := Lib.hid hs
          have hok := List.all_eq_true.1 hOK s (List.mem_of_getElem? hs)
          have hnl := hNL s (List.mem_of_getElem? hs)
          have hI := Lib.hid (fun wx => l2Draws_any s wx)
          clear hs
          have hk0 : (0 : Int) ≤ (r'.pos : Int) := Int.natCast_nonneg _
          have hk1 : (r'.pos : Int) < (m : Int) := by omega
          cases hd : s.draws
          · rw [hd] at hI
            go_wp2_with fail
            go_still_tail 22, (by kernel_rfl)
            change wpList _ _ _ _ _ wr.drew
            go_wp2_with fail
            refine (hI.out _).mono ?_
            rintro e w3 ⟨rfl, hb3⟩
            have hb3' : Below wr.heap.size wr w3 := ((Below.refl _ _).drew).trans hb3
            have hrun3 := hrun.kept hb3'
            have hgc3 := (hA3.out.below (hbr.trans (hb3'.mono (by omega))) hgl).cell
            have hcr3 := hrun3.cell
            obtain ⟨d0, d1, d2, d3', d4, d5, d6⟩ := (hat.keep (w' := w3) (fun p hp => hb3'.cell (by omega))).open_
            clear hgc hcr c0 c1 c2 c3' c4 c5 c6 hb3
            have cO := Lib.hid (fun wx hx => l2Own_any s r' G wx hok hd hnl hF.out (by omega) hx)
            have hLn := Lib.hid (lvR_own hS.out hd hwt)
            clear hd
            go_wp2_with fail
            go_still_tail 8, (by kernel_rfl)
            change wpList _ _ _ _ _ w3.drew
            go_wp2_with fail
            refine (cO.out _ (hrun3.drewN 1)).mono ?_
            rintro e w4 ⟨rfl, hrun4, hch4⟩
            have hB4 := Lib.hid ((hbr.trans (hb3'.mono (by omega))).trans (((Below.refl _ _).drew).trans (hch4.below (B := G) (Nat.le_refl _) (by have := hb3'.size; show G ≤ w3.heap.size; omega))))
            have hF5 := Lib.hid (hF.out.step (x := 0) hok (by decide))
            have hlt5 := Rn.pos_lt s r' 0
            have hp4 := posAt_of hrun4
            have hR4 := Lib.hid hrun4
            clear hrun4 hch4 hb3' hrun3 hrun hgc3 hcr3 d0 d1 d2 d3' d4 d5 d6
            go_wp2
            go_roundw
            case rel => exact ⟨Rn.step s r' 0, hR4.out, hF5.out, hLn.out.symm.trans hLv.out, by omega, hB4.out, hR4.out.lt⟩
            case measure =>
              rw [hp4, hpos]
              omega
          · rw [hd] at hI
            go_wp2_with fail
            go_still_tail 22, (by kernel_rfl)
            change wpList _ _ _ _ _ wr.drew
            go_wp2_with fail
            refine (hI.out _).mono ?_
            rintro e w3 ⟨rfl, hb3⟩
            have hb3' : Below wr.heap.size wr w3 := ((Below.refl _ _).drew).trans hb3
            have hrun3 := hrun.kept hb3'
            have hgc3 := (hA3.out.below (hbr.trans (hb3'.mono (by omega))) hgl).cell
            have hcr3 := hrun3.cell
            have hwz : (r'.wt == 0) = false := by simpa using hwt
            clear hgc hcr c0 c1 c2 c3' c4 c5 c6 hb3
            go_wp2_with fail
            go_quiet (fail)
            go_wp2_with fail
            have hall := brs_all hS.out hd hwt
            have hbl := Lib.hid (fun (d : Nat) (h : d < 3) => brs_len hS.out hd hwt h)
            generalize hWQ : World.drewN w3 nq = WQ
            have hbQ : Below w.heap.size w WQ := by
              rw [← hWQ]
              exact below_drewN ((hg0'.out ▸ ((hb0.trans hbr).trans (hb3'.mono (by omega))) : Below w.heap.size w w3)) _
            have hrunQ : Has WQ G 95 #[.int .i64 r'.pos, .int .i64 r'.st, .int .i64 r'.wt] := by rw [← hWQ]; exact hrun3.drewN _
            have hAQ := hA'.out.kept hbQ
            have hRQ := hR'.out.but (KeptBut.of_below hbQ (fun _ => False)) (fun _ _ h => h) (fun _ _ _ _ _ h => h)
            have hKQ := KeptBut.of_below hbQ (fun i => i = g ∨ (Value.slice AO rs.length co).ownBlock = some i)
            have hp11 : r'.pos ≤ 11 := by omega
            have hrr := Lib.hid hS.out
            have hI2 := Lib.hid (fun (d : Nat) (h : d < 3) R wx hx => l2Draw_any s r' d R wx hok hd hF.out (by omega) (by omega) hx)
            have hAll := Lib.hid hall
            have hAQ' := Lib.hid hAQ
            have hRQ' := Lib.hid hRQ
            have hKQ' := Lib.hid hKQ
            have hrunQ' := Lib.hid hrunQ
            have hbQz := hbQ.size
            obtain ⟨j0, kj0, kz0, kz1, kz2⟩ := info_parts info_int
            clear hWQ hbQ hrunQ hAQ hRQ hKQ hall hgc3 hcr3 hrun3 hb3' hbr hrun hI hd hat
            rw [show decide (m ≤ r'.pos) = false from decide_eq_false (by omega)]
            go_loopw [6] (fun v wx => ∃ (d : Nat) (vo' : Value) (vs' : List Value), d ≤ 3 ∧ v = .int .i64 d ∧ Has wx g 133 #[.slice (some ⟨gs, off, none⟩) m c, vo'] ∧ RowsV wx (g + 1) vo' (rs ++ rowsOf ds (brs os s r' d)) vs' ∧ KeptBut w wx (fun i => i = g ∨ (Value.slice AO rs.length co).ownBlock = some i) ∧ (∀ k, vo'.ownBlock = some k → (Value.slice AO rs.length co).ownBlock = some k ∨ w.heap.size ≤ k) ∧ Has wx G 95 #[.int .i64 r'.pos, .int .i64 r'.st, .int .i64 r'.wt]) (fun v _ => 3 - (intOf v).toNat)
            case atStart => exact ⟨0, _, vs, by omega, rfl, hAQ'.out, by simpa [brs, rowsOf, filt] using hRQ'.out, hKQ'.out, fun k hk => .inl hk, hrunQ'.out⟩
            case round =>
              obtain ⟨d, vo', vs', hd3, rfl, hAx, hRx, hKx, hbx, hrx⟩ := hrel
              have hzx := hKx.size
              by_cases hdlt : d < 3
              · have hLx := hL'.out.below (hKx.below (B := g) (fun i hi e => by
                  rcases e with e | e
                  · omega
                  · have := (World.ownsRow.lt hR'.out.1 i e).1
                    omega) (by have := hg0'.out; omega))
                have hDx := hD'.out.but hKx (fun k hk e => by
                  obtain ⟨c1, h1⟩ := owns_has hD'.out hk
                  rcases e with e | e
                  · exact has_ne hA'.out h1 ty_b e.symm
                  · obtain ⟨c2, h2⟩ := owns_has hR'.out.1 e
                    exact has_ne h1 h2 int_ne rfl)
                have hAn := hAx.alloc (.cells #[.int .i64 r'.pos, .int .i64 r'.st, .int .i64 r'.wt] 95)
                have hrn := hrx.alloc (.cells #[.int .i64 r'.pos, .int .i64 r'.st, .int .i64 r'.wt] 95)
                have hnn := Has.new wr 95 #[.int .i64 r'.pos, .int .i64 r'.st, .int .i64 r'.wt]
                have hLn := hLx.below ((Below.refl wr.heap.size wr).alloc (Nat.le_refl _) (.cells #[.int .i64 r'.pos, .int .i64 r'.st, .int .i64 r'.wt] 95) |>.mono (by have := hg0'.out; omega))
                have hcx := hrx.cell
                have hLh := Lib.hid hLn
                have hAxh := Lib.hid hAx
                have hRxh := Lib.hid hRx
                have hDxh := Lib.hid hDx
                have hrxh := Lib.hid hrx
                clear hLx hLn hAx hRx hDx hrx
                go_wp2_with fail
                clear hcx
                generalize hW4 : wr.alloc (.cells #[.int .i64 r'.pos, .int .i64 r'.st, .int .i64 r'.wt] 95) = W4 at hAn hrn hnn hLh ⊢
                have hK4 : KeptBut wr W4 (fun _ => False) := by rw [← hW4]; exact KeptBut.alloc (KeptBut.refl _ _) _
                have hz4 : wr.heap.size + 1 = W4.heap.size := by rw [← hW4]; simp
                clear hW4
                obtain ⟨gs2, off2, s2, he, hgs2, hs2, hat2⟩ := hLh.out.at_ (show r'.pos < m by omega)
                injection he with he
                injection he with e1 e2 _
                subst e1 e2
                obtain rfl : s2 = s := Option.some.inj (hs2.symm.trans hrr.out)
                obtain ⟨c0, c1, c2, c3', c4, c5, c6⟩ := hat2.open_
                have hca := hAn.cell
                have hcr := hrn.cell
                have hk0 : (0 : Int) ≤ (r'.pos : Int) := Int.natCast_nonneg _
                have hk1 : (r'.pos : Int) < (m : Int) := by omega
                generalize hNN : wr.heap.size = NN at hnn hz4 ⊢
                clear hs2 hat2
                go_still_tail 9, (by kernel_rfl)
                change wpList _ _ _ _ _ W4.drew
                go_wp2_with fail
                refine (hI2.out d hdlt NN _ (hnn.drewN 1)).mono ?_
                rintro e w5 ⟨rfl, hrun5, hch5⟩
                have hK5 : KeptBut wr w5 (fun _ => False) := KeptBut.trans hK4 (KeptBut.trans ((KeptBut.refl W4 (fun i => i = NN)).drewN 1) (KeptBut.of_grown hch5 (fun k e => by injection e with e; exact e.symm)) (fun _ _ h => h)) (fun i hi e => by omega)
                have hA5 := hAxh.out.but hK5 (fun h => h)
                have hR5 := hRxh.out.but hK5 (fun _ _ h => h) (fun _ _ _ _ _ h => h)
                have hD5 := hDxh.out.but hK5 (fun _ _ h => h)
                have hr5 := hrxh.out.but hK5 (fun h => h)
                have hz5 : NN + 1 ≤ w5.heap.size := by have := hrun5.lt; omega
                have hwd : w.heap.size ≤ NN := by omega
                have hK5' := KeptBut.trans hKx hK5 (fun _ _ h => h.elim)
                have hcells := World.ownsRow.cells (IOwn.alloc hD5 (.cells #[] 3)) (g := gd) rfl
                have hO5 := own_none w5 3 w5.heap.size rfl
                have hHc := Lib.hid hcells
                have hHo := Lib.hid hO5
                have hl5 := Lib.hid (show (ints ds).length = nd * 1 by rw [ints_length, hnd, Nat.mul_one])
                have hAh := Lib.hid hA5
                have hRh := Lib.hid hR5
                have hDh := Lib.hid hD5
                have hrh := Lib.hid hr5
                have hNh := Lib.hid hrun5
                have hKh := Lib.hid hK5'
                clear hcells hO5 hA5 hR5 hD5 hr5 hrun5 hK5' hK5 hK4 hch5 hKx hca hcr c0 c1 c2 c3' c4 c5 c6 hAn hrn hnn hAxh hRxh hDxh hrxh hLh
                go_wp2_with (at_builtin; refine wpList_append_own_at _ rfl (.tmp 80) (.tmp 81) 23 rfl w5.heap.size 3 j0 _ 1 8 Try.underlying23 kj0 kz0 kz1 kz2 rfl (by decide) _ 0 [] rfl hHo.out ⟨gd, 0, none⟩ nd cd (ints ds) ?hx ?c1 ?c2 ?c3 ?c4 ?c5 ?c6 ?_)
                all_goals try (case hx => first | rfl | (simp; done))
                all_goals try (case c1 => exact hl5.out)
                all_goals try (case c2 => exact hHc.out)
                all_goals try (case c3 => exact ints_one ds)
                all_goals try (case c4 => unfold maxLen; omega)
                all_goals try (case c5 => omega)
                all_goals try (case c6 => first | omega | (simp; done) | (simp; omega))
                intro v7 w7 hown7 hgrow7 _ hblk7
                obtain ⟨A7, c7, hv7, hl7, hm7⟩ := owns_form hown7
                subst hv7
                have hz7 : w5.heap.size + 1 ≤ w7.heap.size := by have := hgrow7.size; simp at this; exact this
                have hK7 : KeptBut w5 w7 (fun _ => False) := KeptBut.trans (KeptBut.alloc (KeptBut.refl w5 (fun _ => False)) _) (KeptBut.of_grown hgrow7 (S := fun i => i = w5.heap.size) (fun k e => by injection e with e; exact e.symm)) (fun i hi e => by omega)
                have hA7 := hAh.out.but hK7 (fun h => h)
                have hR7 := hRh.out.but hK7 (fun _ _ h => h) (fun _ _ _ _ _ h => h)
                have hr7 := hrh.out.but hK7 (fun h => h)
                have hN7 := hNh.out.but hK7 (fun h => h)
                have hK7' := KeptBut.trans hKh.out hK7 (fun _ _ h => h.elim)
                have hbase7 : g + 1 ≤ w5.heap.size := by have := hg0'.out; omega
                have hAi := Lib.hid hA7
                have hRi := Lib.hid hR7
                have hRh7 := Lib.hid hRh.out.2
                have hri := Lib.hid hr7
                have hNi := Lib.hid hN7
                have hKi := Lib.hid hK7'
                have hOi := Lib.hid hown7
                have hcn := hN7.cell
                clear hA7 hR7 hr7 hN7 hK7' hK7 hown7 hgrow7 hblk7 hAh hRh hrh hNh hKh hDh hHc hHo
                go_wp2_with fail
                have hstep := hF.out.step (x := (d : Int)) hok (by omega)
                have hplt := Rn.pos_lt s2 r' d
                have hGo := Lib.hid (show ∀ (gq cq : Nat) (w8 : World), w8.ownsRow (g + 1) 3 1 (.slice (some ⟨gq, 0, none⟩) (nd + 1) cq) (nd + 1) (ints ds ++ [.int .i64 d]) → KeptBut w7 w8 (fun i => (Value.slice A7 nd c7).ownBlock = some i) → Calls Try.prog 131 #[.pointer (some ⟨g, 0, none⟩), .agg #[.int .i64 (Rn.step s2 r' d).pos, .int .i64 (Rn.step s2 r' d).st, .int .i64 (Rn.step s2 r' d).wt], .slice (some ⟨gq, 0, none⟩) (nd + 1) cq] w8 (Fromd w8 g m (some ⟨gs, off, none⟩) c vo' ((rs ++ rowsOf ds (brs os s2 r' d)) ++ rowsOf (ds ++ [(d : Int)]) (lvR os (Rn.step s2 r' d)))) from by
                  intro gq cq w8 ho8 hk8
                  have hne : ∀ i, i < w5.heap.size → ¬ (Value.slice A7 nd c7).ownBlock = some i := fun i hi e => by have := (World.ownsRow.lt hOi.out i e).1; omega
                  have hl0 := hbl.out d hdlt
                  have hl1 := rowsOf_len ds (brs os s2 r' d)
                  have hk8w := KeptBut.trans hKi.out hk8 (fun i hi e => absurd e (hne i (by omega)))
                  refine hIh.out (N - 1) (by omega) (Rn.step s2 r' d) vo' _ vs' gq (nd + 1) cq (ds ++ [(d : Int)]) w8 (by omega) hstep (by simp; omega) (by simp [hnd]) ?_ (hAi.out.but hk8 (hne g (by omega))) ?_ (hRi.out.but hk8 (fun k hk e => ?_) (fun k cur hc _ hx e => ?_)) ?_
                  · rw [List.length_append]
                    have e : (lvR os r').length = (lvR os r).length := by rw [hLv.out]
                    omega
                  · exact hL'.out.below (hk8w.below (B := g) (fun i hi e => by
                      rcases e with e | e
                      · omega
                      · have := (World.ownsRow.lt hR'.out.1 i e).1
                        omega) (by have := hg0'.out; omega))
                  · obtain ⟨c1, h1⟩ := owns_has hRi.out.1 hk
                    obtain ⟨c2, h2⟩ := owns_has hOi.out e
                    exact has_ne h2 h1 int_ne rfl
                  · obtain ⟨x, hxm, hxo⟩ := hx
                    obtain ⟨i, hi, hie⟩ := List.getElem_of_mem hxm
                    obtain ⟨es, _, hes⟩ := hRh7.out i x (by rw [List.getElem?_eq_getElem hi, hie])
                    have h1 := (World.ownsRow.lt hes k hxo).2
                    exact hne k h1 e
                  · unfold IOwn
                    rw [List.length_append, ints_append, hnd]
                    exact ho8)
                have hFin := Lib.hid (show ∀ (w8 w9 : World) (vo9 : Value) (vs9 : List Value), KeptBut w7 w8 (fun i => (Value.slice A7 nd c7).ownBlock = some i) → RowsV w9 (g + 1) vo9 ((rs ++ rowsOf ds (brs os s2 r' d)) ++ rowsOf (ds ++ [(d : Int)]) (lvR os (Rn.step s2 r' d))) vs9 → KeptBut w8 w9 (fun i => i = g ∨ vo'.ownBlock = some i) → (∀ k, vo9.ownBlock = some k → vo'.ownBlock = some k ∨ w8.heap.size ≤ k) → RowsV w9 (g + 1) vo9 (rs ++ rowsOf ds (brs os s2 r' (d + 1))) vs9 ∧ KeptBut w w9 (fun i => i = g ∨ (Value.slice AO rs.length co).ownBlock = some i) ∧ (∀ k, vo9.ownBlock = some k → (Value.slice AO rs.length co).ownBlock = some k ∨ w.heap.size ≤ k) ∧ Has w9 G 95 #[.int .i64 r'.pos, .int .i64 r'.st, .int .i64 r'.wt] from by
                  intro w8 w9 vo9 vs9 hk8 hr9 hk9 hb9
                  have hne : ∀ i, i < w5.heap.size → ¬ (Value.slice A7 nd c7).ownBlock = some i := fun i hi e => by have := (World.ownsRow.lt hOi.out i e).1; omega
                  have hk8w := KeptBut.trans hKi.out hk8 (fun i hi e => absurd e (hne i (by omega)))
                  refine ⟨?_, KeptBut.trans hk8w hk9 (fun i hi e => ?_), fun k hk => ?_, ((hri.out.but hk8 (hne G (by have := hg0'.out; omega))).but hk9 (fun e => ?_))⟩
                  · have e : rs ++ rowsOf ds (brs os s2 r' (d + 1)) = (rs ++ rowsOf ds (brs os s2 r' d)) ++ rowsOf (ds ++ [(d : Int)]) (lvR os (Rn.step s2 r' d)) := by
                      rw [brs, rowsOf_append, rowsOf_map, List.append_assoc]
                    rw [e]
                    exact hr9
                  · rcases e with e | e
                    · exact .inl e
                    · rcases hbx i e with e' | e'
                      · exact .inr e'
                      · omega
                  · rcases hb9 k hk with e | e
                    · exact hbx k e
                    · right
                      have := hk8w.size
                      omega
                  · rcases e with e | e
                    · exact has_ne hri.out hAi.out ty_d e
                    · obtain ⟨c2, h2⟩ := owns_has hRi.out.1 e
                      exact has_ne hri.out h2 ty_c rfl)
                have hnewq : ∀ j u, [Value.int .i64 (d : Int)][j]? = some u → (w7.alloc (.cells #[.int .i64 (d : Int)] 3)).cell? ((⟨w7.heap.size, 0, none⟩ : Addr).add j) = some u := new_one w7 _ _
                have hnq := Lib.hid hnewq
                have hOa := Lib.hid (owns_le (World.ownsRow.alloc hOi.out (.cells #[.int .i64 (d : Int)] 3)) hbase7)
                have hNlt : NN < w7.heap.size := by omega
                clear hnewq
                go_region_law (first | (refine step_append_lies _ rfl (.tmp 85) (.tmp 87) 23 rfl (g + 1) 3 j0 _ 1 8 Try.underlying23 kj0 kz0 kz1 kz2 rfl (by decide) (.slice A7 nd c7) nd (ints ds) (by simp [Act.eval]) (by exact hOa.out) ⟨w7.heap.size, 0, none⟩ 1 1 [.int .i64 (d : Int)] (by simp [Act.eval]) rfl (by exact hnq.out) (by simp [Value.oneCell']) (by omega) (by unfold maxLen; omega) (by omega) (by simp; omega) (w7.heap.size + 1) (by simp) ?_; intro gq cq w8 hown8 hgrow8 hat8 hlt8; have hK8 : KeptBut w7 w8 (fun i => (Value.slice A7 nd c7).ownBlock = some i) := KeptBut.trans (KeptBut.alloc (KeptBut.refl w7 (fun i => (Value.slice A7 nd c7).ownBlock = some i)) (.cells #[.int .i64 (d : Int)] 3)) ⟨hgrow8.os, hgrow8.tape, hgrow8.output, hgrow8.size, fun i hi hn => hgrow8.block i hi (fun e => hn e.symm)⟩ (fun _ _ e => e); have hcn8 := (Has.but (by exact hNi.out) hK8 (fun e => has_ne (by exact hNi.out) (Classical.choose_spec (owns_has (by exact hOi.out) e)) (by decide) rfl)).cell) | (go_simp; go_at_call 131; refine (hGo.out gq cq _ (by exact hown8) (by exact hK8)).mono ?_; rintro e w9 ⟨rfl, vo9, vs9, hA9, hR9, hK9, hb9⟩))
                all_goals
                  have hF9 := Lib.hid (hFin.out _ _ _ _ hK8 hR9 hK9 hb9)
                  have hA9' := Lib.hid hA9
                  clear hA9 hR9 hK9 hb9 hK8 hcn8 hown8 hgrow8 hcn
                  go_wp2
                  go_roundw
                  case rel => exact ⟨d + 1, vo9, vs9, by omega, by go_num, hA9'.out, hF9.out.1, hF9.out.2.1, hF9.out.2.2.1, hF9.out.2.2.2⟩
                  case measure => (simp [intOf]; try omega)
              · obtain rfl : d = 3 := by omega
                have hRow := Lib.hid (show rs ++ rowsOf ds (brs os s r' 3) = rs ++ rowsOf ds (lvR os r) by rw [hAll.out, hLv.out])
                have hRx' := Lib.hid hRx
                have hAx' := Lib.hid hAx
                have hKx' := Lib.hid hKx
                have hbx' := Lib.hid hbx
                clear hRx hAx hKx hbx hrx
                go_wp2
                go_end0
                rw [← hRow.out]
                exact ⟨rfl, vo', vs', hAx'.out, hRx'.out, hKx'.out, hbx'.out⟩
      · have hge : m ≤ r'.pos := by omega
        have hk0 : ¬ ((r'.pos : Int) < (m : Int)) := by omega
        by_cases hwt : r'.wt = 0
        · have hRow := Lib.hid (show rs ++ rowsOf ds (lvR os r) = rs by
            rw [← hLv.out, lvR_zero hwt, hwt, rowsOf_zero, List.append_nil])
          have hwt' : r'.wt = 0 := hwt
          rw [hwt'] at hcr
          clear hwt
          go_wp2_with fail
          go_quiet (fail)
          go_wp2_with fail
          go_end0
          rw [hRow.out]
          exact Fromd.same hA'.out hR'.out (below_drewN (hg0'.out ▸ (hb0.trans hbr)) _)
        · have hRow := Lib.hid (show rs ++ rowsOf ds (lvR os r) = rs ++ [ds] by
            rw [← hLv.out, lvR_end (by rw [hM]; exact hge), rowsOf_leaf ds hwt])
          have hwz : (r'.wt == 0) = false := by simpa using hwt
          go_wp2_with fail
          go_quiet (fail)
          go_wp2_with fail
          go_quiet (fail)
          generalize hWQ : World.drewN (World.drewN wr _) nq = WQ
          have hbQ : Below w.heap.size w WQ := by
            rw [← hWQ]
            exact below_drewN (below_drewN (hg0'.out ▸ (hb0.trans hbr)) _) _
          have hAQ := (hA'.out.kept hbQ).alloc (.cells #[.slice (some ⟨gd, 0, none⟩) nd cd] 23)
          have hRQ := hR'.out.but (KeptBut.alloc (KeptBut.of_below hbQ (fun _ => False)) (.cells #[.slice (some ⟨gd, 0, none⟩) nd cd] 23)) (fun _ _ h => h) (fun _ _ _ _ _ h => h)
          have hDQ := (hD'.out.below hbQ).alloc (.cells #[.slice (some ⟨gd, 0, none⟩) nd cd] 23)
          have hNew := Lib.hid (new_one WQ (.slice (some ⟨gd, 0, none⟩) nd cd) 23)
          have hKQ := KeptBut.alloc (KeptBut.of_below hbQ (fun i => i = g ∨ (Value.slice AO rs.length co).ownBlock = some i)) (.cells #[.slice (some ⟨gd, 0, none⟩) nd cd] 23)
          have hcQ := (hA'.out.kept hbQ).cell
          have hO3 := Lib.hid hRQ.1
          have hQz := hbQ.size
          have hRS := Lib.hid hRQ
          have hAS := Lib.hid hAQ
          have hDS := Lib.hid hDQ
          have hglQ : g < WQ.heap.size := by have := hg0'.out; omega
          clear hgc hcr hRQ hAQ hDQ hWQ hbr hrun
          go_wp2_with (at_builtin; refine wpList_append_own_at _ rfl (.tmp 58) (.tmp 60) 42 rfl (g + 1) 23 i0 _ 1 24 Try.underlying42 hi0 hz0 hz1' hz2' rfl (by decide) _ rs.length vs rfl hO3.out ⟨WQ.heap.size, 0, none⟩ 1 1 [.slice (some ⟨gd, 0, none⟩) nd cd] ?hx ?c1 ?c2 ?c3 ?c4 ?c5 ?c6 ?_)
          all_goals try (case hx => first | rfl | (simp; done))
          all_goals try (case c1 => rfl)
          all_goals try (case c2 => first | exact hNew.out | (intro j u hu; simpa using hu))
          all_goals try (case c3 => simp [Value.oneCell'])
          all_goals try (case c4 => unfold maxLen; omega)
          all_goals try (case c5 => omega)
          all_goals try (case c6 => first | omega | (simp; done) | (simp; omega))
          intro v' w5 hown' hgrow _ hblk
          obtain ⟨A5, c5, hv5, _, _⟩ := owns_form hown'
          subst hv5
          have hK5 := KeptBut.of_grown hgrow (S := fun i => (Value.slice AO rs.length co).ownBlock = some i) (fun k e => e)
          have hR5 := Lib.hid (RowsV.append_ hRS.out hDS.out hown' hgrow)
          have hA5 := Has.but hAS.out hK5 (fun e => by
            obtain ⟨c2, h2⟩ := owns_has hRS.out.1 e
            exact has_ne hAS.out h2 ty_a rfl)
          have hKK := Lib.hid (KeptBut.trans hKQ hK5 (fun i _ e => .inr e))
          have hblk' : ∀ k, (Value.slice A5 (rs.length + 1) c5).ownBlock = some k → (Value.slice AO rs.length co).ownBlock = some k ∨ w.heap.size ≤ k := fun k hk => by
            rcases hblk with e | e
            · exact .inl (e ▸ hk)
            · rw [e] at hk
              injection hk with hk
              exact .inr (by first | omega | (simp at hk; omega))
          have hBl := Lib.hid hblk'
          have hA5' := Lib.hid hA5
          have hcg := hA5.cell
          have hfg := hA5.frozen
          clear hown' hgrow hblk hblk' hK5 hKQ hcQ hNew hO3 hRS hAS hDS
          go_wp2
          go_end0
          rw [hRow.out]
          have hA6 := hA5'.out.put 1 (.slice A5 (rs.length + 1) c5)
          have hne1 : ∀ k, (Value.slice A5 (rs.length + 1) c5).ownBlock = some k → ¬ k = g := fun k hk e => by
            obtain ⟨c2, h2⟩ := owns_has hR5.out.1 hk
            exact has_ne hA5'.out h2 ty_a e.symm
          refine ⟨rfl, (.slice A5 (rs.length + 1) c5), _, hA6, hR5.out.but (KeptBut.put (KeptBut.refl _ (fun i => i = g)) (p := ⟨g, 1, none⟩) (fun _ => rfl) (.slice A5 (rs.length + 1) c5)) hne1 (fun k cur hk _ _ e => has_ne hA5'.out hk ty_b e.symm), KeptBut.put hKK.out (p := ⟨g, 1, none⟩) (fun _ => .inl rfl) (.slice A5 (rs.length + 1) c5), hBl.out⟩
end Go.Proofs.Ytcdajplmheladaa

namespace Go.Proofs.Ytcdajplmheladaa
set_option maxRecDepth 100000
set_option linter.unusedVariables false
open Go.RowKit

theorem RowsV.le {w : World} {base base' : Nat} {v : Value} {rs : List (List Int)} {vs : List Value} (h : RowsV w base v rs vs) (hb : base' ≤ base) : RowsV w base' v rs vs :=
  ⟨owns_le h.1 hb, fun i x hx => by
    obtain ⟨ds, hd, ho⟩ := h.2 i x hx
    exact ⟨ds, hd, owns_le ho hb⟩⟩

/-- The rows of a program's traces. -/
def rowsT (o : Option (List Leaf)) : List (List Int) := (o.getD []).map fun l => l.1
/-- How telling all traces ends. -/
def TrOd (w : World) (o : Option (List Leaf)) (e : Ending) (w' : World) : Prop :=
  ∃ v vs, e = .returned (.tuple #[v, .bool o.isSome]) ∧ RowsV w' w.heap.size v (rowsT o) vs ∧ Below w.heap.size w w'
theorem TrOd.no {w w' : World} {o : Option (List Leaf)} (h : o = none) (hb : Below w.heap.size w w') : TrOd w o (.returned (.tuple #[.slice none 0 0, .bool false])) w' := by
  subst h; exact ⟨_, [], rfl, RowsV.nil _ _, hb⟩

theorem tracesOf_none {ps : List St} (h : unrolled ps = none) : tracesOf ps = none := by unfold tracesOf; rw [h]; rfl
theorem tracesOf_many {ps os : List St} (h : unrolled ps = some os) (hd : 6 < (os.filter St.draws).length) : tracesOf ps = none := by
  unfold tracesOf; rw [h]
  exact if_neg (by omega)
theorem tracesOf_some {ps os : List St} (h : unrolled ps = some os) (hd : (os.filter St.draws).length ≤ 6) : tracesOf ps = some (traces os) := by
  unfold tracesOf; rw [h]
  exact if_pos hd

theorem specTracesOf_any (A : Option Addr) (n c : Nat) (ps : List St) (w : World) (h : Lst w w.heap.size A n ps) (hn : n ≤ c) (hc : c ≤ maxLen) (hbig : n ≤ 1048576) :
    Calls Try.prog 110 #[.slice A n c] w (TrOd w (tracesOf ps)) := by
  have hC := Lib.hid (fun wx (hx : Lst wx wx.heap.size A n ps) => l1Unrolled_any A n c ps wx hx hn hc hbig)
  have hD := Lib.hid (fun wx (hx : Lst wx wx.heap.size A n ps) => specCountDraws_any A n c ps wx hx hn hc hbig)
  have hH := Lib.hid h
  clear h hc
  cases hu : unrolled ps with
  | none =>
    have hN := Lib.hid (show countDraws ps = -1 by unfold countDraws; rw [hu])
    have hR := Lib.hid (tracesOf_none hu)
    clear hu
    go_enter Try.func110, Try.ntmps110
    go_wp2_with fail
    refine (hD.out _ hH.out).mono ?_
    rw [hN.out]
    rintro e w1 ⟨rfl, hb⟩
    go_wp2
    go_ret2
    exact TrOd.no hR.out hb
  | some os =>
    have hN := Lib.hid (show countDraws ps = ((os.filter St.draws).length : Nat) by unfold countDraws; rw [hu])
    by_cases hm : 6 < (os.filter St.draws).length
    · have hR := Lib.hid (tracesOf_many hu hm)
      clear hu
      generalize (os.filter St.draws).length = D at hm hN
      go_enter Try.func110, Try.ntmps110
      go_wp2_with fail
      refine (hD.out _ hH.out).mono ?_
      rw [hN.out]
      rintro e w1 ⟨rfl, hb⟩
      go_wp2
      go_ret2
      exact TrOd.no hR.out hb
    · have hR := Lib.hid (tracesOf_some hu (by omega))
      have hU := Lib.hid hu
      obtain ⟨_, hlen, _, hNL, hOK⟩ := unrolled_parts hu
      have hOk := Lib.hid hOK
      have hNl := Lib.hid hNL
      clear hu hNL hOK
      generalize (os.filter St.draws).length = D at hm hN
      go_enter Try.func110, Try.ntmps110
      go_wp2_with fail
      refine (hD.out _ hH.out).mono ?_
      rw [hN.out]
      rintro e w1 ⟨rfl, hb⟩
      go_wp2_with fail
      refine (hC.out _ ((hH.out.below hb).more hb.size)).mono ?_
      rw [hU.out]
      rintro e w2 ⟨v, rfl, hown', hb2⟩
      have hown : Own w2 w1.heap.size v os := hown' os rfl
      obtain ⟨A3, c3, rfl, hlc, hcm⟩ := hown.form
      have hO := Lib.hid hown.lst
      have hB2 := Lib.hid (hb.trans (hb2.mono hb.size))
      have hz2 := hB2.out.size
      clear hown hown' hb hb2
      generalize hmm : os.length = m at hO hlen hlc ⊢
      have hM := Lib.hid hmm
      clear hmm
      go_wp2_with fail
      have hA0 := (Has.new w2 133 #[.slice A3 m c3, .slice none 0 0]).alloc (.cells #[] 3)
      have hB0 : Below w2.heap.size w2 ((w2.alloc (.cells #[.slice A3 m c3, .slice none 0 0] 133)).alloc (.cells #[] 3)) := ((Below.refl _ _).alloc (Nat.le_refl _) _).alloc (by simp) _
      have hL0 := hO.out.below hB0
      have hI0 : IOwn ((w2.alloc (.cells #[.slice A3 m c3, .slice none 0 0] 133)).alloc (.cells #[] 3)) (w2.heap.size + 1) (.slice (some ⟨w2.heap.size + 1, 0, none⟩) 0 0) [] := by
        have := own_none (w2.alloc (.cells #[.slice A3 m c3, .slice none 0 0] 133)) 3 (w2.heap.size + 1) (by simp)
        simpa [IOwn, ints] using this
      refine (from_any os m hM.out hlen hOk.out hNl.out w2.heap.size A3 c3 m ⟨0, 0, 1⟩ (.slice none 0 0) [] [] (w2.heap.size + 1) 0 0 [] _ (by simp) Rn.fit_start (by simp) rfl (by have := lvR_len (os := os) ⟨0, 0, 1⟩ (by rw [hM.out]; exact hlen); simp; omega) hA0 hL0 (RowsV.nil _ _) hI0).mono ?_
      rintro e w5 ⟨rfl, vo', vs', hA5, hR5, hK5, hb5⟩
      rw [List.nil_append] at hR5
      have hrw : rowsOf [] (lvR os ⟨0, 0, 1⟩) = rowsT (some (traces os)) := by
        unfold rowsOf rowsT traces
        simp
      rw [hrw] at hR5
      have hR5' := Lib.hid hR5
      obtain ⟨A5, c5, hv5, _, _⟩ := RowsV.form hR5
      subst hv5
      have hB5 := Lib.hid (hB2.out.trans ((hB0.mono hz2).trans (hK5.below (B := w.heap.size) (fun i hi e => by
        rcases e with e | e
        · omega
        · cases e) (by simp; omega))))
      have hc5 := hA5.cell
      clear hA0 hL0 hI0 hB0 hR5 hK5 hb5
      go_wp2
      go_ret2
      rw [hR.out]
      exact ⟨_, vs', rfl, hR5'.out.le (by omega), hB5.out⟩
end Go.Proofs.Ytcdajplmheladaa
