/- The model's l3Push. -/
import Derived.Test.YtbndonfpdioibaaMd
namespace Go.Proofs.Ytbndonfpdioibaa
set_option maxRecDepth 100000
set_option linter.unusedVariables false
open Go.RowKit

theorem mw_row {w : World} {base m c t : Nat} {A : Option Addr} {rs : List (List Int)} {vs : List Value} (h : RowsV w base (.slice A (m + 1) c) rs vs) (hr : Rk m rs) (ht : t ≤ m) :
    ∃ g b cx cur, A = some ⟨g, 0, none⟩ ∧ vs[t]? = some (.slice (some ⟨b, 0, none⟩) 81 cx) ∧ w.cell? ⟨g, t, none⟩ = some (.slice (some ⟨b, 0, none⟩) 81 cx) ∧ (∀ z, z < 81 → w.cell? ⟨b, z, none⟩ = some (.int .i64 (ent rs t z))) ∧ Has w b 3 cur ∧ base ≤ b ∧ IOwn w base (.slice (some ⟨b, 0, none⟩) 81 cx) (rs.getD t []) := by
  obtain ⟨e1, e2, _⟩ := hr.at_ ht
  obtain ⟨g, Ax, cx, ds, rfl, hv, hc, hd, ho⟩ := h.at_ hr.1 (show t < m + 1 by omega)
  obtain rfl : rs.getD t [] = ds := Option.some.inj (e1.symm.trans hd)
  rw [e2] at hv hc ho
  have ho' : w.ownsRow base 3 1 (.slice Ax 81 cx) 81 (ints (rs.getD t [])) := by
    unfold IOwn at ho
    rwa [e2] at ho
  obtain ⟨b, cur, rfl, hb, hH, _, _, _, hcell⟩ := owns_open ho' (by decide)
  refine ⟨g, b, cx, cur, rfl, hv, hc, fun z hz => ?_, hH, hb, ho⟩
  rw [hcell z (by omega)]
  exact ints_get (hr.ent ht hz).1
theorem mw_cell {w : World} {base m c t g b cx : Nat} {rs : List (List Int)} {vs : List Value} (h : RowsV w base (.slice (some ⟨g, 0, none⟩) (m + 1) c) rs vs) (hr : Rk m rs) (ht : t ≤ m) (hv : vs[t]? = some (.slice (some ⟨b, 0, none⟩) 81 cx)) :
    w.cell? ⟨g, t, none⟩ = some (.slice (some ⟨b, 0, none⟩) 81 cx) ∧ (∀ z, z < 81 → w.cell? ⟨b, z, none⟩ = some (.int .i64 (ent rs t z))) ∧ (∃ cur, Has w b 3 cur) ∧ base ≤ b := by
  obtain ⟨g', b', cx', cur, eA, hv', hc, hz, hH, hb, _⟩ := mw_row h hr ht
  injection eA with eA
  injection eA with eA _ _
  subst eA
  have e := hv.symm.trans hv'
  injection e with e
  injection e with e _ e3
  injection e with e
  injection e with e _ _
  subst e e3
  exact ⟨hc, hz, ⟨cur, hH⟩, hb⟩
theorem info_rowM : (Try.prog.info? 24).map (fun i => (i.zero, i.size, i.bytes)) = some (some (.slice none 0 0), 1, 24) := by kernel_rfl
theorem tmd_a : (135 : TypeId) ≠ 3 := by decide
theorem tmd_b : (135 : TypeId) ≠ 24 := by decide
theorem tmd_c : (135 : TypeId) ≠ 78 := by decide
theorem tmd_d : (3 : TypeId) ≠ 78 := by decide
/-- Behind a store, or what a call made, in a block of another type. -/
theorem rowsV_chg {w w' : World} {base R : Nat} {v : Value} {rs : List (List Int)} {vs : List Value} {cs : Array Value} (h : RowsV w base v rs vs) (hR : Has w R 135 cs) (hk : KeptBut w w' (fun i => i = R)) : RowsV w' base v rs vs := by
  refine h.but hk (fun k hkb e => ?_) (fun k cur hc _ _ e => ?_)
  · obtain ⟨c1, g1⟩ := owns_has h.1 hkb
    exact has_ne hR g1 tmd_b e.symm
  · exact has_ne hR hc tmd_a e.symm
theorem chg_but {w w' : World} {R : Nat} (h : Chg w w' R) : KeptBut w w' (fun i => i = R) := KeptBut.of_grown h (fun k e => by injection e with e; exact e.symm)
/-- Behind a store into an entry. -/
theorem mw_put {w : World} {base m c t z b cx : Nat} {A : Option Addr} {rs : List (List Int)} {vs : List Value} {x : Int} (h : RowsV w base (.slice A (m + 1) c) rs vs) (ha : Apart vs) (hr : Rk m rs) (ht : t ≤ m) (hv : vs[t]? = some (.slice (some ⟨b, 0, none⟩) 81 cx)) (hz : z < 81) :
    RowsV (w.setCell ⟨b, z, none⟩ (.int .i64 (ent rs t z + x))) base (.slice A (m + 1) c) (addc rs t z x) vs := by
  obtain ⟨e1, e2, _⟩ := hr.at_ ht
  have := (h.put ha (j := t) (z := z) (b := b) (c := cx) (ds := rs.getD t []) (x := ent rs t z + x) (by rw [e2]; exact hv) e1 (by omega)).1
  exact this

def Pushd (w : World) (base : Nat) (out : List Int) (e : Ending) (w' : World) : Prop := ∃ v, e = .returned v ∧ IOwn w' base v out ∧ Below base w w'
/-- What is told behind statements of what is ahead of them. -/
def pushed (os : List St) (ds : List Int) : List Int := (List.range 81).map fun (q : Nat) => rsum (valAt (ind q) os 0) ds 0
/-- What lies in memory ahead of an entry. -/
def MdL (w wr : World) (base m : Nat) (os : List St) (ds : List Int) (o : Value) (i z : Nat) : Prop :=
  ∃ rs vs, Mst os m (fun h => rsum (valAt h os 0) ds 0) i z rs ∧ RowsV wr base o rs vs ∧ Apart vs ∧ Below base w wr
theorem rowsV_below {w w' : World} {base : Nat} {v : Value} {rs : List (List Int)} {vs : List Value} (h : RowsV w base v rs vs) (hb : Below w.heap.size w w') : RowsV w' base v rs vs :=
  h.but (KeptBut.of_below hb (fun _ => False)) (fun _ _ h => h) (fun _ _ _ _ _ h => h)
theorem MdL.below {w wr wr' : World} {base m i z : Nat} {os : List St} {ds : List Int} {o : Value} (h : MdL w wr base m os ds o i z) (hb : Below wr.heap.size wr wr') (hB : base ≤ wr.heap.size) : MdL w wr' base m os ds o i z := by
  obtain ⟨rs, vs, h1, h2, h3, h4⟩ := h
  exact ⟨rs, vs, h1, rowsV_below h2 hb, h3, h4.trans (hb.mono hB)⟩

set_option maxHeartbeats 4000000 in
theorem l3Push_any (A Ad : Option Addr) (m c cd base : Nat) (os : List St) (ds : List Int) (w : World) (hL : Lst w base A m os) (hm : os.length = m) (h12 : m ≤ 12) (hok : ∀ s ∈ os, s.ok = true ∧ s.notLoop = true) (hd : IOwn w base (.slice Ad 81 cd) ds) (hl : ds.length = 81) (h0 : ∀ x ∈ ds, 0 ≤ x) (hV : rsum (V2 m 0) ds 0 ≤ 1000000000000000000) (hb : base ≤ w.heap.size) :
    Calls Try.prog 186 #[.slice A m c, .slice Ad 81 cd] w (Pushd w base (pushed os ds)) := by
  have hM0 := Lib.hid (mst_start (os := os) (T := fun h => rsum (valAt h os 0) ds 0) hl h0 (fun _ => rfl) hV)
  have hR0 := Lib.hid (show RowsV (w.alloc (.cells #[.slice Ad 81 cd] 24)) base (.slice (some ⟨w.heap.size, 0, none⟩) 1 1) [ds] [.slice Ad 81 cd] from
    ⟨⟨rfl, .inr ⟨w.heap.size, 1, #[.slice Ad 81 cd], rfl, hb, Has.new w _ _, Nat.le_refl _, by simp [maxLen], rfl, rfl⟩⟩, fun i x hx => by
      have hi : i = 0 := by
        have := (List.getElem?_eq_some_iff.1 hx).1
        simp at this; omega
      subst hi
      have hx' : Value.slice Ad 81 cd = x := by simpa using hx
      subst hx'
      exact ⟨ds, rfl, hd.alloc _⟩⟩)
  have hA0 := Lib.hid (show Apart [Value.slice Ad 81 cd] from Apart.nil.snoc (fun y hy => by simp at hy))
  have hB0 := Lib.hid (show Below base w (w.alloc (.cells #[.slice Ad 81 cd] 24)) from (Below.refl _ _).alloc hb _)
  have hM := Lib.hid hm
  have hOk := Lib.hid hok
  have hLs := Lib.hid hL
  have hbw : base ≤ w.heap.size := hb
  have hls : w.heap.size < (w.alloc (.cells #[.slice Ad 81 cd] 24)).heap.size := by simp
  obtain ⟨i0, hi0, hz0, hz1', hz2'⟩ := info_parts info_rowM
  clear hL hm hok hd h0 hV hb hl
  go_enter Try.func186, Try.ntmps186
  go_wp2_with fail
  go_loopg [5, 6] m (fun gn o v wr => ∃ k : Nat, k ≤ m ∧ gn = m - k ∧ v = .int .i64 k ∧ ∃ vs, RowsV wr base o (ds :: List.replicate k (zs 81)) vs ∧ Apart vs ∧ Below base w wr)
  case atStart => exact ⟨0, Nat.zero_le _, rfl, rfl, _, hR0.out, hA0.out, hB0.out⟩
  case round =>
    obtain ⟨k, hk, hgn, rfl, vs, hR, ha, hB⟩ := hrel
    obtain ⟨AO, co, hvo, hlo, hmo⟩ := hR.form
    have hrl : (ds :: List.replicate k (zs 81)).length = k + 1 := by simp
    rw [hrl] at hvo hlo
    subst hvo
    have hgk : gk = m - k := hgn
    have hBs := hB.size
    have hbr : base ≤ wr.heap.size := Nat.le_trans hbw hBs
    clear hgn
    by_cases hlt : k < m
    · have hR' := Lib.hid hR
      have ha' := Lib.hid ha
      have hB' := Lib.hid hB
      clear hR ha hB
      go_wp2_with fail
      refine (l3Zeros_any _).mono ?_
      rintro e w3 ⟨v3, rfl, hO3', hb3⟩
      obtain ⟨A3, c3, hv3, _, _⟩ := hO3'.form
      rw [zs_len] at hv3
      subst hv3
      have hR3 := Lib.hid (rowsV_below hR'.out hb3)
      have hB3 := Lib.hid (hB'.out.trans (hb3.mono hbr))
      have hO3 := Lib.hid (show IOwn w3 base (.slice A3 81 c3) (zs 81) from owns_le hO3' hbr)
      have hO3g := Lib.hid hO3'
      have hz3 := hb3.size
      have hnw := Lib.hid (new_one w3 (.slice A3 81 c3) 24)
      have hK3 := KeptBut.alloc (KeptBut.refl w3 (fun _ => False)) (.cells #[.slice A3 81 c3] 24)
      have hRa := Lib.hid (hR3.out.but hK3 (fun _ _ h => h) (fun _ _ _ _ _ h => h))
      have hOa := Lib.hid (IOwn.but (ds := zs 81) hO3.out hK3 (fun _ _ h => h))
      clear hO3' hb3 hK3
      go_wp2_with (at_builtin; refine wpList_append_lies _ rfl (.tmp 21) (.tmp 23) 130 rfl base 24 i0 _ 1 24 Try.underlying130 hi0 hz0 hz1' hz2' rfl (by decide) (.slice AO (k + 1) co) (k + 1) vs rfl (by have := hRa.out.1; rw [hrl] at this; exact this) ⟨w3.heap.size, 0, none⟩ 1 1 [.slice A3 81 c3] rfl rfl (by exact hnw.out) (by simp [Value.oneCell']) (by omega) (by unfold maxLen; omega) (by omega) (by simp; omega) (w3.heap.size + 1) (by simp) ?_; intro gl cl w4 hown4 hgrow4 hat4 hlt4)
      have hR4 := Lib.hid (RowsV.append_ hRa.out hOa.out (by rw [hrl]; exact hown4) hgrow4)
      have hK4 : KeptBut w3 w4 (fun i => (Value.slice AO (k + 1) co).ownBlock = some i) := grown_but hgrow4
      have hB4 := Lib.hid (hB3.out.trans (hK4.below (B := base) (fun i hi e => by have := (World.ownsRow.lt hR3.out.1 i e).1; omega) (by omega)))
      have ha4 := Lib.hid (ha'.out.snoc (x := Value.slice A3 81 c3) (fun y hy q hq e => by
        have h2 := (World.ownsRow.lt hO3g.out q e).1
        obtain ⟨i, hi, hie⟩ := List.getElem_of_mem hy
        obtain ⟨es, _, ho⟩ := hR'.out.2 i y (by rw [List.getElem?_eq_getElem hi, hie])
        have := (World.ownsRow.lt ho q hq).2
        omega))
      clear hown4 hgrow4 hat4 hlt4 hK4
      go_wp2_with fail
      go_roundg (m - (k + 1))
      case measure => omega
      case rel => exact ⟨k + 1, by omega, rfl, by go_num, _, by rw [List.replicate_succ']; exact hR4.out, ha4.out, hB4.out⟩
    · obtain rfl : k = m := by omega
      have hD0 := Lib.hid (show MdL w wr base k os ds (.slice AO (k + 1) co) 0 0 from ⟨_, vs, hM0.out, hR, ha, hB⟩)
      have hL2 := Lib.hid hLs
      clear hR ha hM0 hR0 hA0 hB0 hlt hgk hrl
      clear hB
      go_wp2_with fail
      go_loopg [7] k (fun gn v wq => ∃ i : Nat, i ≤ k ∧ gn = k - i ∧ v = .int .i64 i ∧ MdL w wq base k os ds (.slice AO (k + 1) co) i 0)
      case atStart => exact ⟨0, Nat.zero_le _, rfl, rfl, hD0.out⟩
      case round =>
        obtain ⟨wq, rfl⟩ : ∃ x, x = wr := ⟨_, rfl⟩
        obtain ⟨i, hi, hgn, rfl, hD⟩ := hrel
        have hgi : gk = k - i := hgn
        clear hgn
        by_cases hik : i < k
        · have hBq : Below base w wq := by
            obtain ⟨_, _, _, _, _, h⟩ := hD
            exact h
          obtain ⟨gs, off, s, rfl, hgs, hs, hat⟩ := (hL2.out.below hBq).at_ hik
          obtain ⟨c0, c1, c2, c3, c4, c5, c6⟩ := hat.open_
          have hS := Lib.hid hs
          have hsok := hOk.out s (List.mem_of_getElem? hs)
          have hzq : base ≤ wq.heap.size := Nat.le_trans hbw hBq.size
          have hAl : Below wq.heap.size wq (wq.alloc (.cells #[.int .i64 s.k, .int .i64 s.a, .int .i64 s.b, .int .i64 s.c, .int .i64 s.u, .int .i64 s.v, .int .i64 s.x] 78)) := (Below.refl _ _).alloc (Nat.le_refl _) _
          have hD1 := Lib.hid (hD.below hAl hzq)
          have hG1 := Lib.hid (Has.new wq 78 #[.int .i64 s.k, .int .i64 s.a, .int .i64 s.b, .int .i64 s.c, .int .i64 s.u, .int .i64 s.v, .int .i64 s.x])
          have hi0' : (0 : Int) ≤ (i : Int) := by omega
          have hi1' : (i : Int) < (k : Int) := by omega
          have cD := Lib.hid (fun wx => l2Draws_any s wx)
          clear hs hat hD hBq hAl
          go_wp2_with fail
          generalize wq.alloc (.cells #[.int .i64 s.k, .int .i64 s.a, .int .i64 s.b, .int .i64 s.c, .int .i64 s.u, .int .i64 s.v, .int .i64 s.x] 78) = W1 at hD1 hG1 ⊢
          generalize wq.heap.size = G at hG1 ⊢
          clear c0 c1 c2 c3 c4 c5 c6
          go_loopg [9] 81 (fun gn v wy => ∃ z : Nat, z ≤ 81 ∧ gn = 81 - z ∧ v = .int .i64 z ∧ MdL w wy base k os ds (.slice AO (k + 1) co) i z ∧ Has wy G 78 #[.int .i64 s.k, .int .i64 s.a, .int .i64 s.b, .int .i64 s.c, .int .i64 s.u, .int .i64 s.v, .int .i64 s.x])
          case atStart => exact ⟨0, by omega, rfl, rfl, hD1.out, hG1.out⟩
          case round =>
            obtain ⟨wy, rfl⟩ : ∃ x, x = wr := ⟨_, rfl⟩
            obtain ⟨z, hz, hgn, rfl, hD, hG⟩ := hrel
            have hgz : gk = 81 - z := hgn
            clear hgn
            by_cases hz81 : z < 81
            · obtain ⟨rs, vs, hMs, hR, ha, hB⟩ := hD
              obtain ⟨g, b, cx, cur, rfl, hv, hcg, hcb, hHb, hbb, _⟩ := mw_row hR hMs.1 hi
              have hcz := hcb z hz81
              have hcs := hG.cell
              have hBs2 := hB.size
              have hzy : base ≤ wy.heap.size := by omega
              have hzi0 : (0 : Int) ≤ (z : Int) := by omega
              have hzi1 : (z : Int) < 81 := by omega
              have hki : (i : Int) < (k : Int) + 1 := by omega
              by_cases hu : ent rs i z = 0
              · have hub : (ent rs i z == 0) = true := by simpa using hu
                have hF := Lib.hid (show MdL w wy base k os ds (.slice (some ⟨g, 0, none⟩) (k + 1) co) i (z + 1) from ⟨rs, vs, hMs.skip hi hz81 hu, hR, ha, hB⟩)
                have hG' := Lib.hid hG
                clear hMs hR ha hB hv hcb hHb hu hG
                go_wp2_with fail
                go_roundg (81 - (z + 1))
                case measure => omega
                case rel => exact ⟨z + 1, by omega, rfl, by go_num, hF.out, hG'.out⟩
              · have hub : (ent rs i z == 0) = false := by simpa using hu
                obtain ⟨hu0, hu27, hcap⟩ := hMs.cap hsok.1 hik hz81
                have hCap := Lib.hid hcap
                have hMs' := Lib.hid hMs
                have hR' := Lib.hid hR
                have ha' := Lib.hid ha
                have hB' := Lib.hid hB
                have hG' := Lib.hid hG
                have hv' := Lib.hid hv
                clear hMs hR ha hB hv hcb hHb hu hG hcap
                cases hdr : s.draws
                · have cD' := Lib.hid (fun wx => cD.out wx)
                  rw [hdr] at cD'
                  have hmany := Lib.hid (show s.many = 1 from by unfold St.many; rw [hdr]; rfl)
                  have hdr' := Lib.hid hdr
                  clear hdr
                  go_wp2_with fail
                  refine (cD'.out _).mono ?_
                  rintro e w3 ⟨rfl, hb3⟩
                  have hR3 := Lib.hid (rowsV_below hR'.out hb3)
                  have hB3 := Lib.hid (hB'.out.trans (hb3.mono hzy))
                  have hG3 := Lib.hid (hG'.out.kept hb3)
                  obtain ⟨hc1, hc2, _, _⟩ := mw_cell hR3.out hMs'.out.1 hi hv'.out
                  have hc3 := hc2 z hz81
                  have hcs3 := hG3.out.cell
                  have hz3 := hb3.size
                  have hK3 := KeptBut.of_below ((Below.refl w3.heap.size w3).alloc (Nat.le_refl _) (.cells #[.int .i64 i, .int .i64 z, .int .i64 (ent rs i z)] 135)) (fun _ => False)
                  have hRr := Has.new w3 135 #[.int .i64 i, .int .i64 z, .int .i64 (ent rs i z)]
                  have hR4 := Lib.hid (rowsV_below hR3.out ((Below.refl w3.heap.size w3).alloc (Nat.le_refl _) (.cells #[.int .i64 i, .int .i64 z, .int .i64 (ent rs i z)] 135)))
                  have hB4 := Lib.hid (hB3.out.alloc (show base ≤ w3.heap.size by omega) (.cells #[.int .i64 i, .int .i64 z, .int .i64 (ent rs i z)] 135))
                  have hG4 := Lib.hid (hG3.out.alloc (.cells #[.int .i64 i, .int .i64 z, .int .i64 (ent rs i z)] 135))
                  have cO := Lib.hid (l2OwV_any s ⟨i, z, ent rs i z⟩ w3.heap.size _ hsok.1 hdr'.out hsok.2 (by show 0 ≤ (z : Int) ∧ (z : Int) ≤ 80; omega) (by show 0 ≤ ent rs i z ∧ ent rs i z ≤ 1000000000000000000; omega) (show i ≤ 12 by omega) hRr)
                  have hRr' := Lib.hid hRr
                  have hcs4 := hG4.out.cell
                  clear hb3 hc2 hK3 hcg hcz hcs hRr
                  go_wp2_with fail
                  have hRne : w3.heap.size ≠ G := has_ne hRr'.out hG4.out tmd_c
                  have hRb : base ≤ w3.heap.size := by omega
                  have hRl := hRr'.out.lt
                  generalize w3.alloc (.cells #[.int .i64 i, .int .i64 z, .int .i64 (ent rs i z)] 135) = W4 at hR4 hB4 hG4 cO hRr' hcs4 hRl ⊢
                  generalize w3.heap.size = R at cO hRr' hRne hRb hRl ⊢
                  clear hcs4 hc1 hc3 hcs3
                  refine (cO.out).mono ?_
                  rintro e w5 ⟨rfl, hRn, hCh⟩
                  have hk5 := chg_but hCh
                  have hR5 := Lib.hid (rowsV_chg hR4.out hRr'.out hk5)
                  have hB5 := Lib.hid (hB4.out.trans (hk5.below (B := base) (fun j hj e => by have e' : j = R := e; omega) (by omega)))
                  have hG5 := Lib.hid (hG4.out.but hk5 (fun e => hRne e.symm))
                  have hNw := Lib.hid (hMs'.out.step hM.out hsok.1 hik hz81 hS.out)
                  obtain ⟨q, hq⟩ : ∃ q, q = Rn.step s ⟨i, z, ent rs i z⟩ 0 := ⟨_, rfl⟩
                  have hq1 : i + 1 ≤ q.pos := by rw [hq]; exact step_pos s ⟨i, z, ent rs i z⟩ 0
                  have hq2 : q.pos ≤ 100 := by
                    have h1 : s.jump z ≤ 12 := by
                      unfold St.jump
                      split
                      · rename_i h
                        have := ok_rng (k := s.k) (a := s.a) (b := s.b) (c := s.c) (u := s.u) (v := s.v) (x := s.x) hsok.1
                        omega
                      · omega
                    rw [hq]
                    show i + 1 + s.jump z ≤ 100
                    omega
                  have hq3 : 0 ≤ q.st ∧ q.st ≤ 80 := by rw [hq]; exact next_bd hsok.1 (by show 0 ≤ (z : Int) ∧ (z : Int) ≤ 80; omega) (by decide)
                  have hq4 : 0 ≤ q.wt := by rw [hq]; exact Int.mul_nonneg hu0 (fac_bd hsok.1 _).1
                  have hq5 : mD k rs s ⟨i, z, ent rs i z⟩ s.many = addc rs (min q.pos k) q.st.toNat q.wt := by rw [hmany.out, hq]; rfl
                  obtain ⟨y, hy⟩ : ∃ y : Nat, q.st = (y : Int) := ⟨q.st.toNat, (Int.toNat_of_nonneg hq3.1).symm⟩
                  rw [hy, Int.toNat_natCast] at hq5
                  have hy81 : y < 81 := by omega
                  obtain ⟨t, ht⟩ : ∃ t, t = min q.pos k := ⟨_, rfl⟩
                  have htk : t ≤ k := by omega
                  have hit : i < t := by omega
                  rw [← ht] at hq5
                  have hq6 := (hCap.out s.many (by rw [hmany.out]; decide)).2 t hit htk y hy81
                  rw [hq5] at hNw hq6
                  have hq7 : ent (addc rs t y q.wt) t y = ent rs t y + q.wt := by
                    unfold ent
                    rw [addc_at hMs'.out.1 htk, List.getD_eq_getElem?_getD (l := List.set _ _ _), List.getElem?_set, if_pos rfl, if_pos (by rw [(hMs'.out.1.at_ htk).2.1]; exact hy81)]
                    rfl
                  rw [hq7] at hq6
                  have hq8 := (hMs'.out.1.ent htk hy81).2
                  have hws : IntKind.i64.wrap (ent rs t y + q.wt) = ent rs t y + q.wt := IntWalk.i64_in _ (by omega)
                  rw [← hq] at hRn
                  rw [hy] at hRn
                  have hRn' := Lib.hid hRn
                  have hy0 : (0 : Int) ≤ (y : Int) := by omega
                  have hy1 : (y : Int) < 81 := by omega
                  have ht0 : (0 : Int) ≤ (t : Int) := by omega
                  have ht1 : (t : Int) < (k : Int) + 1 := by omega
                  have hcr := hRn.cell
                  have hfr := hRn.frozen
                  clear hq hq5 hq7 hk5 hCh hRn
                  by_cases hpk : k < q.pos
                  · obtain rfl : k = t := by omega
                    clear ht
                    go_wp2_with fail
                    have hk6 : KeptBut w5 (w5.setCell ⟨R, 0, none⟩ (.int .i64 k)) (fun i => i = R) := KeptBut.put (KeptBut.refl w5 (fun i => i = R)) (p := ⟨R, 0, none⟩) (fun _ => rfl) _
                    have hR6 := Lib.hid (rowsV_chg hR5.out hRn'.out hk6)
                    have hB6 := Lib.hid (hB5.out.setCell (p := ⟨R, 0, none⟩) hRb (.int .i64 k))
                    have hG6 := Lib.hid (hG5.out.but hk6 (fun e => hRne e.symm))
                    have hRn6 := Lib.hid (show Has (w5.setCell ⟨R, 0, none⟩ (.int .i64 k)) R 135 #[.int .i64 k, .int .i64 y, .int .i64 q.wt] from by simpa using hRn'.out.put 0 (.int .i64 k))
                    clear hcr hfr hk6
                    generalize w5.setCell ⟨R, 0, none⟩ (.int .i64 k) = W6 at hR6 hB6 hG6 hRn6 ⊢
                    obtain ⟨g2, b2, cx2, cur2, eA2, hv2, hcg2, hcb2, hHb2, hbb2, _⟩ := mw_row hR6.out hMs'.out.1 htk
                    injection eA2 with eA2
                    injection eA2 with eA2 _ _
                    subst eA2
                    have hcv2 := hcb2 y hy81
                    have hfb2 := hHb2.frozen
                    have hne2 : b2 ≠ G := has_ne hHb2 hG6.out tmd_d
                    have hne3 : R ≠ b2 := has_ne hRn6.out hHb2 tmd_a
                    have hRf := mw_put (x := q.wt) hR6.out ha'.out hMs'.out.1 htk hv2 hy81
                    have hGf := Lib.hid (hG6.out.far (p := ⟨b2, y, none⟩) (by simp; omega) (.int .i64 (ent rs k y + q.wt)))
                    have hF := Lib.hid (show MdL w ((W6).setCell ⟨b2, y, none⟩ (.int .i64 (ent rs k y + q.wt))) base k os ds (.slice (some ⟨g, 0, none⟩) (k + 1) co) i (z + 1) from ⟨_, _, hNw.out, hRf, ha'.out, hB6.out.setCell (p := ⟨b2, y, none⟩) hbb2 _⟩)
                    have hcr6 := hRn6.out.cell
                    have hzf : base ≤ ((W6).setCell ⟨b2, y, none⟩ (.int .i64 (ent rs k y + q.wt))).heap.size := by
                      obtain ⟨_, _, _, _, _, h⟩ := hF.out
                      exact Nat.le_trans hbw h.size
                    clear hcb2 hHb2 hv2 hRf
                    go_still_tail 20, (by kernel_rfl)
                    repeat still_step
                    try (refine wpStill_nil ?_)
                    try (change wpList _ _ _ _ _ (World.drew W6))
                    go_wp2_with fail
                    go_roundg (81 - (z + 1))
                    case measure => omega
                    case rel => exact ⟨z + 1, by omega, rfl, by go_num, hF.out.below ((Below.refl _ _).drew) hzf, hGf.out⟩
                  · have htq : t = q.pos := by omega
                    clear ht
                    rw [← htq] at hcr hpk hRn'
                    clear htq
                    have hR6 := hR5
                    have hB6 := hB5
                    have hG6 := hG5
                    have hRn6 := hRn'
                    go_wp2_with fail
                    clear hcr hfr
                    obtain ⟨g2, b2, cx2, cur2, eA2, hv2, hcg2, hcb2, hHb2, hbb2, _⟩ := mw_row hR6.out hMs'.out.1 htk
                    injection eA2 with eA2
                    injection eA2 with eA2 _ _
                    subst eA2
                    have hcv2 := hcb2 y hy81
                    have hfb2 := hHb2.frozen
                    have hne2 : b2 ≠ G := has_ne hHb2 hG6.out tmd_d
                    have hne3 : R ≠ b2 := has_ne hRn6.out hHb2 tmd_a
                    have hRf := mw_put (x := q.wt) hR6.out ha'.out hMs'.out.1 htk hv2 hy81
                    have hGf := Lib.hid (hG6.out.far (p := ⟨b2, y, none⟩) (by simp; omega) (.int .i64 (ent rs t y + q.wt)))
                    have hF := Lib.hid (show MdL w ((w5).setCell ⟨b2, y, none⟩ (.int .i64 (ent rs t y + q.wt))) base k os ds (.slice (some ⟨g, 0, none⟩) (k + 1) co) i (z + 1) from ⟨_, _, hNw.out, hRf, ha'.out, hB6.out.setCell (p := ⟨b2, y, none⟩) hbb2 _⟩)
                    have hcr6 := hRn6.out.cell
                    have hzf : base ≤ ((w5).setCell ⟨b2, y, none⟩ (.int .i64 (ent rs t y + q.wt))).heap.size := by
                      obtain ⟨_, _, _, _, _, h⟩ := hF.out
                      exact Nat.le_trans hbw h.size
                    clear hcb2 hHb2 hv2 hRf
                    go_still_tail 20, (by kernel_rfl)
                    repeat still_step
                    try (refine wpStill_nil ?_)
                    try (change wpList _ _ _ _ _ (World.drew w5))
                    go_wp2_with fail
                    go_roundg (81 - (z + 1))
                    case measure => omega
                    case rel => exact ⟨z + 1, by omega, rfl, by go_num, hF.out.below ((Below.refl _ _).drew) hzf, hGf.out⟩
                · have cD' := Lib.hid (fun wx => cD.out wx)
                  rw [hdr] at cD'
                  have hmany := Lib.hid (show s.many = 3 from by unfold St.many; rw [hdr]; rfl)
                  have hdr' := Lib.hid hdr
                  clear hdr
                  go_wp2_with fail
                  refine (cD'.out _).mono ?_
                  rintro e w3 ⟨rfl, hb3⟩
                  have hR3 := Lib.hid (rowsV_below hR'.out hb3)
                  have hB3 := Lib.hid (hB'.out.trans (hb3.mono hzy))
                  have hG3 := Lib.hid (hG'.out.kept hb3)
                  clear hb3 hcg hcz hcs
                  go_wp2_with fail
                  go_loopg [10] 3 (fun gn v wz => ∃ d : Nat, d ≤ 3 ∧ gn = 3 - d ∧ v = .int .i64 d ∧ RowsV wz base (.slice (some ⟨g, 0, none⟩) (k + 1) co) (mD k rs s ⟨i, z, ent rs i z⟩ d) vs ∧ Below base w wz ∧ Has wz G 78 #[.int .i64 s.k, .int .i64 s.a, .int .i64 s.b, .int .i64 s.c, .int .i64 s.u, .int .i64 s.v, .int .i64 s.x])
                  case atStart => exact ⟨0, by omega, rfl, rfl, hR3.out, hB3.out, hG3.out⟩
                  case round =>
                    obtain ⟨wz, rfl⟩ : ∃ x, x = wr := ⟨_, rfl⟩
                    obtain ⟨d, hd, hgn, rfl, hR, hB, hG⟩ := hrel
                    have hgd : gk = 3 - d := hgn
                    clear hgn
                    by_cases hd3 : d < 3
                    · have hsa : 0 ≤ s.a ∧ s.a ≤ 3 := by
                        have := ok_rng (k := s.k) (a := s.a) (b := s.b) (c := s.c) (u := s.u) (v := s.v) (x := s.x) hsok.1
                        omega
                      have hst : 0 ≤ (z : Int) ∧ (z : Int) ≤ 80 := by omega
                      have hx : 0 ≤ (d : Int) ∧ (d : Int) ≤ 2 := by omega
                      have hRk := (hCap.out d hd).1
                      have hcap1 := (hCap.out (d + 1) (by omega)).2 (i + 1) (by omega) (by omega)
                      have hui : ent (mD k rs s ⟨i, z, ent rs i z⟩ d) i z = ent rs i z := by
                        show ((mD k rs s ⟨i, z, ent rs i z⟩ d).getD i []).getD z 0 = (rs.getD i []).getD z 0
                        rw [mD_le (r := ⟨i, z, ent rs i z⟩) hik d i (Nat.le_refl _)]
                      have hq3 := next_bd hsok.1 (x := (d : Int)) hst hx
                      obtain ⟨y, hy⟩ : ∃ y : Nat, s.next z d = (y : Int) := ⟨(s.next z d).toNat, (Int.toNat_of_nonneg hq3.1).symm⟩
                      have hf := fac_bd hsok.1 (s.next z d)
                      obtain ⟨f, hfe⟩ : ∃ f, f = s.fac (s.next z d) := ⟨_, rfl⟩
                      have hmd : mD k rs s ⟨i, z, ent rs i z⟩ (d + 1) = addc (mD k rs s ⟨i, z, ent rs i z⟩ d) (i + 1) y (ent rs i z * f) := by
                        show addc (mD k rs s ⟨i, z, ent rs i z⟩ d) (min (i + 1 + s.jump z) k) (s.next z d).toNat (ent rs i z * s.fac (s.next z d)) = _
                        rw [jump_draw hdr'.out, ← hfe, hy, Int.toNat_natCast, Nat.min_eq_left (by omega), Nat.add_zero]
                      have cN := Lib.hid (fun wx => l1With_v z s.a d wx hst hsa hx)
                      rw [← next_draw hdr'.out, hy] at cN
                      have cW := Lib.hid (fun wx => l2Weight_any s z d wx hsok.1 hdr'.out hst hx)
                      rw [← hfe] at cW hf
                      rw [hy] at hq3
                      have hy81 : y < 81 := by omega
                      have hcap2 := hcap1 y hy81
                      rw [hmd] at hcap2
                      have hmd' := Lib.hid hmd
                      clear hmd hcap1 hfe hy
                      generalize mD k rs s ⟨i, z, ent rs i z⟩ d = RS at hR hRk hui hcap2 hmd'
                      have hi1k : i + 1 ≤ k := by omega
                      have hq7 : ent (addc RS (i + 1) y (ent rs i z * f)) (i + 1) y = ent RS (i + 1) y + ent rs i z * f := by
                        unfold ent
                        rw [addc_at hRk hi1k, List.getD_eq_getElem?_getD (l := List.set _ _ _), List.getElem?_set, if_pos rfl, if_pos (by rw [(hRk.at_ hi1k).2.1]; exact hy81)]
                        rfl
                      rw [hq7] at hcap2
                      have hq8 := (hRk.ent hi1k hy81).2
                      have hq9 : 0 ≤ ent rs i z * f := Int.mul_nonneg hu0 hf.1
                      have hw1 : IntKind.i64.wrap (ent rs i z * f) = ent rs i z * f := IntWalk.i64_in _ (by omega)
                      have hw2 : IntKind.i64.wrap (ent RS (i + 1) y + ent rs i z * f) = ent RS (i + 1) y + ent rs i z * f := IntWalk.i64_in _ (by omega)
                      have hw3 : IntKind.i64.wrap ((i : Int) + 1) = (i : Int) + 1 := IntWalk.i64_in _ (by omega)
                      have hw4 : ((i : Int) + 1).toNat = i + 1 := by omega
                      obtain ⟨g1, b1, cx1, cur1, eA1, hv1, hcg1, hcb1, hHb1, hbb1, _⟩ := mw_row hR hRk hi1k
                      injection eA1 with eA1
                      injection eA1 with eA1 _ _
                      subst eA1
                      obtain ⟨hcg0, hcb0, ⟨cur0, hHb0⟩, hbb0⟩ := mw_cell hR hRk hi hv'.out
                      have hcz0 := hcb0 z hz81
                      rw [hui] at hcz0
                      have hcy1 := hcb1 y hy81
                      have hfy1 := hHb1.frozen y
                      have hne01 : b1 ≠ b := fun e => ha'.out i (i + 1) _ _ (by omega) hv'.out hv1 b rfl (by rw [e]; rfl)
                      obtain ⟨curg, hHg⟩ := owns_has hR.1 (k := g) rfl
                      have hneg : b1 ≠ g := has_ne hHb1 hHg int_ne
                      have hneG : b1 ≠ G := has_ne hHb1 hG tmd_d
                      have hgl := hHg.lt
                      have hbl := hHb0.lt
                      have hGl := hG.lt
                      have hcs := hG.cell
                      have hSk := Lib.hid (show ∀ wx : World, Below wz.heap.size wz wx → wx.cell? ⟨g, i + 1, none⟩ = some (.slice (some ⟨b1, 0, none⟩) 81 cx1) ∧ wx.cell? ⟨g, i, none⟩ = some (.slice (some ⟨b, 0, none⟩) 81 cx) ∧ wx.cell? ⟨b, z, none⟩ = some (.int .i64 (ent rs i z)) ∧ wx.cell? ⟨G, 0, none⟩ = some (.int .i64 s.k) ∧ wx.cell? ⟨G, 1, none⟩ = some (.int .i64 s.a) ∧ wx.cell? ⟨G, 2, none⟩ = some (.int .i64 s.b) ∧ wx.cell? ⟨G, 3, none⟩ = some (.int .i64 s.c) ∧ wx.cell? ⟨G, 4, none⟩ = some (.int .i64 s.u) ∧ wx.cell? ⟨G, 5, none⟩ = some (.int .i64 s.v) ∧ wx.cell? ⟨G, 6, none⟩ = some (.int .i64 s.x) from fun wx hw => ⟨(hw.cell (p := ⟨g, _, none⟩) hgl).trans hcg1, (hw.cell (p := ⟨g, _, none⟩) hgl).trans hcg0, (hw.cell (p := ⟨b, _, none⟩) hbl).trans hcz0, (hw.cell (p := ⟨G, _, none⟩) hGl).trans (hcs 0), (hw.cell (p := ⟨G, _, none⟩) hGl).trans (hcs 1), (hw.cell (p := ⟨G, _, none⟩) hGl).trans (hcs 2), (hw.cell (p := ⟨G, _, none⟩) hGl).trans (hcs 3), (hw.cell (p := ⟨G, _, none⟩) hGl).trans (hcs 4), (hw.cell (p := ⟨G, _, none⟩) hGl).trans (hcs 5), (hw.cell (p := ⟨G, _, none⟩) hGl).trans (hcs 6)⟩)
                      have hSt := Lib.hid (show ∀ (wx : World) (ux : Value), (wx.cell? ⟨g, i + 1, none⟩ = some (.slice (some ⟨b1, 0, none⟩) 81 cx1) ∧ wx.cell? ⟨g, i, none⟩ = some (.slice (some ⟨b, 0, none⟩) 81 cx) ∧ wx.cell? ⟨b, z, none⟩ = some (.int .i64 (ent rs i z)) ∧ wx.cell? ⟨G, 0, none⟩ = some (.int .i64 s.k) ∧ wx.cell? ⟨G, 1, none⟩ = some (.int .i64 s.a) ∧ wx.cell? ⟨G, 2, none⟩ = some (.int .i64 s.b) ∧ wx.cell? ⟨G, 3, none⟩ = some (.int .i64 s.c) ∧ wx.cell? ⟨G, 4, none⟩ = some (.int .i64 s.u) ∧ wx.cell? ⟨G, 5, none⟩ = some (.int .i64 s.v) ∧ wx.cell? ⟨G, 6, none⟩ = some (.int .i64 s.x)) → ((wx.setCell ⟨b1, y, none⟩ ux).cell? ⟨g, i + 1, none⟩ = some (.slice (some ⟨b1, 0, none⟩) 81 cx1) ∧ (wx.setCell ⟨b1, y, none⟩ ux).cell? ⟨g, i, none⟩ = some (.slice (some ⟨b, 0, none⟩) 81 cx) ∧ (wx.setCell ⟨b1, y, none⟩ ux).cell? ⟨b, z, none⟩ = some (.int .i64 (ent rs i z)) ∧ (wx.setCell ⟨b1, y, none⟩ ux).cell? ⟨G, 0, none⟩ = some (.int .i64 s.k) ∧ (wx.setCell ⟨b1, y, none⟩ ux).cell? ⟨G, 1, none⟩ = some (.int .i64 s.a) ∧ (wx.setCell ⟨b1, y, none⟩ ux).cell? ⟨G, 2, none⟩ = some (.int .i64 s.b) ∧ (wx.setCell ⟨b1, y, none⟩ ux).cell? ⟨G, 3, none⟩ = some (.int .i64 s.c) ∧ (wx.setCell ⟨b1, y, none⟩ ux).cell? ⟨G, 4, none⟩ = some (.int .i64 s.u) ∧ (wx.setCell ⟨b1, y, none⟩ ux).cell? ⟨G, 5, none⟩ = some (.int .i64 s.v) ∧ (wx.setCell ⟨b1, y, none⟩ ux).cell? ⟨G, 6, none⟩ = some (.int .i64 s.x)) from fun wx ux ⟨a0, a1, a2, a3, a4, a5, a6, a7, a8, a9⟩ => ⟨far1 (fun e => hneg (by injection e with e; exact e.symm)) a0, far1 (fun e => hneg (by injection e with e; exact e.symm)) a1, far1 (fun e => hne01 (by injection e with e; exact e.symm)) a2, far1 (fun e => hneG (by injection e with e; exact e.symm)) a3, far1 (fun e => hneG (by injection e with e; exact e.symm)) a4, far1 (fun e => hneG (by injection e with e; exact e.symm)) a5, far1 (fun e => hneG (by injection e with e; exact e.symm)) a6, far1 (fun e => hneG (by injection e with e; exact e.symm)) a7, far1 (fun e => hneG (by injection e with e; exact e.symm)) a8, far1 (fun e => hneG (by injection e with e; exact e.symm)) a9⟩)
                      have hR1 := Lib.hid hR
                      have hB1 := Lib.hid hB
                      have hG1' := Lib.hid hG
                      have hHb1' := Lib.hid hHb1
                      have hcb1' := Lib.hid hcb1
                      have hv1' := Lib.hid hv1
                      have hd0 : (0 : Int) ≤ (d : Int) := by omega
                      have hd1 : (d : Int) < 3 := by omega
                      have hi2 : (i : Int) + 1 < (k : Int) + 1 := by omega
                      have hi3 : (0 : Int) ≤ (i : Int) + 1 := by omega
                      have hy0 : (0 : Int) ≤ (y : Int) := by omega
                      have hy1 : (y : Int) < 81 := by omega
                      have hcs1 := hcs 1
                      have hzz : base ≤ wz.heap.size := Nat.le_trans hbw hB.size
                      have hRk' := Lib.hid hRk
                      clear hR hB hG hHb1 hcb1 hv1 hcs hHb0 hcb0 hHg hcap2 hq7 hRk hf hsa hst hx hq3 hui
                      go_wp2_with fail
                      refine (cN.out _).mono ?_
                      rintro e w' ⟨rfl, rfl⟩
                      go_wp2_with fail
                      refine wp_region_held_drew (S := fun wx => wx.cell? ⟨g, i + 1, none⟩ = some (.slice (some ⟨b1, 0, none⟩) 81 cx1) ∧ wx.cell? ⟨g, i, none⟩ = some (.slice (some ⟨b, 0, none⟩) 81 cx) ∧ wx.cell? ⟨b, z, none⟩ = some (.int .i64 (ent rs i z)) ∧ wx.cell? ⟨G, 0, none⟩ = some (.int .i64 s.k) ∧ wx.cell? ⟨G, 1, none⟩ = some (.int .i64 s.a) ∧ wx.cell? ⟨G, 2, none⟩ = some (.int .i64 s.b) ∧ wx.cell? ⟨G, 3, none⟩ = some (.int .i64 s.c) ∧ wx.cell? ⟨G, 4, none⟩ = some (.int .i64 s.u) ∧ wx.cell? ⟨G, 5, none⟩ = some (.int .i64 s.v) ∧ wx.cell? ⟨G, 6, none⟩ = some (.int .i64 s.x)) (by kernel_rfl) (hSk.out _ ((Below.refl _ _).drew)) (fun hHeld => ?_)
                      refine wpAnyH_take (i := 0) (oi := _) (v := ?v0_1) rfl (by kernel_rfl) (by kernel_rfl) (by kernel_rfl) (fun _ _ _ h => h) (Or.inl ⟨by rfl, ?h0_1⟩) (by assumption) ?r0_1
                      case h0_1 => (intro w hSw; (try dsimp only at hSw); go_simp; try (with_reducible rfl))
                      try simp only [Act.put, List.setIfInBounds_toArray]
                      refine wpAnyH_take (i := 1) (oi := _) (v := ?v1_2) rfl (by kernel_rfl) (by kernel_rfl) (by kernel_rfl) (fun _ _ _ h => h) (Or.inl ⟨by rfl, ?h1_2⟩) (by assumption) ?r1_2
                      case h1_2 => (intro w hSw; (try dsimp only at hSw); go_simp; try (with_reducible rfl))
                      try simp only [Act.put]
                      refine wpAnyH_take (i := 2) (oi := _) (v := ?v2_3) rfl (by kernel_rfl) (by kernel_rfl) (by kernel_rfl) (fun _ _ _ h => h) (Or.inl ⟨by rfl, ?h2_3⟩) (by assumption) ?r2_3
                      case h2_3 => (intro w hSw; (try dsimp only at hSw); go_simp; try (with_reducible rfl))
                      try simp only [Act.put]
                      refine wpAnyH_take (i := 3) (oi := _) (v := ?v3_4) rfl (by kernel_rfl) (by kernel_rfl) (by kernel_rfl) (fun _ _ _ h => h) (Or.inl ⟨by rfl, ?h3_4⟩) (by assumption) ?r3_4
                      case h3_4 => (intro w hSw; (try dsimp only at hSw); go_simp; try (with_reducible rfl))
                      try simp only [Act.put]
                      refine wpAnyH_take (i := 4) (oi := _) (v := ?v4_5) rfl (by kernel_rfl) (by kernel_rfl) (by kernel_rfl) (fun _ _ _ h => h) (Or.inl ⟨by rfl, ?h4_5⟩) (by assumption) ?r4_5
                      case h4_5 => (intro w hSw; (try dsimp only at hSw); go_simp; try (with_reducible rfl))
                      try simp only [Act.put]
                      refine wpAnyH_take (i := 5) (oi := _) (v := ?v5_6) rfl (by kernel_rfl) (by kernel_rfl) (by kernel_rfl) (fun _ _ _ h => h) (Or.inl ⟨by rfl, ?h5_6⟩) (by assumption) ?r5_6
                      case h5_6 => (intro w hSw; (try dsimp only at hSw); go_simp; try (with_reducible rfl))
                      try simp only [Act.put]
                      refine wpAnyH_take (i := 6) (oi := _) (v := ?v6_7) rfl (by kernel_rfl) (by kernel_rfl) (by kernel_rfl) (fun _ _ _ h => h) (Or.inl ⟨by rfl, ?h6_7⟩) (by assumption) ?r6_7
                      case h6_7 => (intro w hSw; (try dsimp only at hSw); go_simp; try (with_reducible rfl))
                      try simp only [Act.put]
                      refine wpAnyH_take (i := 7) (oi := _) (v := ?v7_8) rfl (by kernel_rfl) (by kernel_rfl) (by kernel_rfl) (fun _ _ _ h => h) (Or.inl ⟨by rfl, ?h7_8⟩) (by assumption) ?r7_8
                      case h7_8 => (intro w hSw; (try dsimp only at hSw); go_simp; try (with_reducible rfl))
                      try simp only [Act.put]
                      refine wpAnyH_take (i := 8) (oi := _) (v := ?v8_9) rfl (by kernel_rfl) (by kernel_rfl) (by kernel_rfl) (fun _ _ _ h => h) (Or.inl ⟨by rfl, ?h8_9⟩) (by assumption) ?r8_9
                      case h8_9 => (intro w hSw; (try dsimp only at hSw); go_simp; try (with_reducible rfl))
                      try simp only [Act.put]
                      refine wpAnyH_take (i := 9) (oi := _) (v := ?v9_10) rfl (by kernel_rfl) (by kernel_rfl) (by kernel_rfl) (fun _ _ _ h => h) (Or.inl ⟨by rfl, ?h9_10⟩) (by assumption) ?r9_10
                      case h9_10 => (intro w hSw; (try dsimp only at hSw); go_simp; try (with_reducible rfl))
                      try simp only [Act.put]
                      refine wpAnyH_take (i := 10) (oi := _) (v := ?v10_11) rfl (by kernel_rfl) (by kernel_rfl) (by kernel_rfl) (fun _ _ _ h => h) (Or.inl ⟨by rfl, ?h10_11⟩) (by assumption) ?r10_11
                      case h10_11 => (intro w hSw; (try dsimp only at hSw); go_simp; try (with_reducible rfl))
                      try simp only [Act.put]
                      refine wpAnyH_take (i := 11) (oi := _) (v := ?v11_12) rfl (by kernel_rfl) (by kernel_rfl) (by kernel_rfl) (fun _ _ _ h => h) (Or.inl ⟨by rfl, ?h11_12⟩) (by assumption) ?r11_12
                      case h11_12 => (intro w hSw; (try dsimp only at hSw); go_simp; try (with_reducible rfl))
                      try simp only [Act.put]
                      refine wpAnyH_take (i := 12) (oi := _) (v := ?v12_13) rfl (by kernel_rfl) (by kernel_rfl) (by kernel_rfl) (fun _ _ _ h => h) (Or.inl ⟨by rfl, ?h12_13⟩) (by assumption) ?r12_13
                      case h12_13 => (intro w hSw; (try dsimp only at hSw); go_simp; try (with_reducible rfl))
                      try simp only [Act.put]
                      refine wpAnyH_take (i := 14) (oi := _) (v := ?v14_14) rfl (by kernel_rfl) (by kernel_rfl) (by kernel_rfl) (fun _ _ _ h => h) (Or.inl ⟨by rfl, ?h14_14⟩) (by assumption) ?r14_14
                      case h14_14 => (intro w hSw; (try dsimp only at hSw); go_simp; try (with_reducible rfl))
                      try simp only [Act.put]
                      refine wpAnyH_take (i := 15) (oi := _) (v := ?v15_15) rfl (by kernel_rfl) (by kernel_rfl) (by kernel_rfl) (fun _ _ _ h => h) (Or.inl ⟨by rfl, ?h15_15⟩) (by assumption) ?r15_15
                      case h15_15 => (intro w hSw; (try dsimp only at hSw); go_simp; try (with_reducible rfl))
                      try simp only [Act.put]
                      refine wpAnyH_take (i := 16) (oi := _) (v := ?v16_16) rfl (by kernel_rfl) (by kernel_rfl) (by kernel_rfl) (fun _ _ _ h => h) (Or.inl ⟨by rfl, ?h16_16⟩) (by assumption) ?r16_16
                      case h16_16 => (intro w hSw; (try dsimp only at hSw); go_simp; try (with_reducible rfl))
                      try simp only [Act.put]
                      refine wpAnyH_take (i := 17) (oi := _) (v := ?v17_17) rfl (by kernel_rfl) (by kernel_rfl) (by kernel_rfl) (fun _ _ _ h => h) (Or.inl ⟨by rfl, ?h17_17⟩) (by assumption) ?r17_17
                      case h17_17 => (intro w hSw; (try dsimp only at hSw); go_simp; try (with_reducible rfl))
                      try simp only [Act.put]
                      refine wpAnyH_take (i := 18) (oi := _) (v := ?v18_18) rfl (by kernel_rfl) (by kernel_rfl) (by kernel_rfl) (fun _ _ _ h => h) (Or.inl ⟨by rfl, ?h18_18⟩) (by assumption) ?r18_18
                      case h18_18 => (intro w hSw; (try dsimp only at hSw); go_simp; try (with_reducible rfl))
                      try simp only [Act.put]
                      refine wpAnyH_take (i := 19) (oi := _) (v := ?v19_19) rfl (by kernel_rfl) (by kernel_rfl) (by kernel_rfl) (fun _ _ _ h => h) (Or.inl ⟨by rfl, ?h19_19⟩) (by assumption) ?r19_19
                      case h19_19 => (intro w hSw; (try dsimp only at hSw); go_simp; try (with_reducible rfl))
                      try simp only [Act.put]
                      refine wpAnyH_take (i := 20) (oi := _) (v := ?v20_20) rfl (by kernel_rfl) (by kernel_rfl) (by kernel_rfl) (fun _ _ _ h => h) (Or.inl ⟨by rfl, ?h20_20⟩) (by assumption) ?r20_20
                      case h20_20 => (intro w hSw; (try dsimp only at hSw); go_simp; try (with_reducible rfl))
                      try simp only [Act.put]
                      refine wpAnyH_take (i := 21) (oi := _) (v := ?v21_21) rfl (by kernel_rfl) (by kernel_rfl) (by kernel_rfl) (fun _ _ _ h => h) (Or.inl ⟨by rfl, ?h21_21⟩) (by assumption) ?r21_21
                      case h21_21 => (intro w hSw; (try dsimp only at hSw); go_simp; try (with_reducible rfl))
                      try simp only [Act.put]
                      refine wpAnyH_take (i := 22) (oi := _) (v := ?v22_22) rfl (by kernel_rfl) (by kernel_rfl) (by kernel_rfl) (fun _ _ _ h => h) (Or.inl ⟨by rfl, ?h22_22⟩) (by assumption) ?r22_22
                      case h22_22 => (intro w hSw; (try dsimp only at hSw); go_simp; try (with_reducible rfl))
                      try simp only [Act.put]
                      refine wpAnyH_take (i := 23) (oi := _) (v := ?v23_23) rfl (by kernel_rfl) (by kernel_rfl) (by kernel_rfl) (fun _ _ _ h => h) (Or.inl ⟨by rfl, ?h23_23⟩) (by assumption) ?r23_23
                      case h23_23 => (intro w hSw; (try dsimp only at hSw); go_simp; try (with_reducible rfl))
                      try simp only [Act.put]
                      refine wpAnyH_ready (rs := [13, 24]) (by kernel_rfl) (by simp) ?_
                      refine AllReadyH.cons (o := _) rfl (fun K hK => ?_) ?_
                      · go_simp
                        refine hK.out _ _ (hSk.out _ ((Below.refl _ _).drew)) (fun hHeld => ?_)
                        clear hK K
                        try simp only [Act.put, List.setIfInBounds_toArray, List.set_cons_zero, List.set_cons_succ]
                        refine wpAnyH_ready (rs := [24]) (by kernel_rfl) (by simp) ?_
                        refine AllReadyH.cons (o := _) rfl (fun K hK => ?_) AllReadyH.nil
                        go_simp
                        go_at_call 121
                        refine (cW.out _).mono ?_
                        rintro e w6 ⟨rfl, hb6⟩
                        have hb6' := ((Below.refl _ _).drew).trans hb6
                        have hcy6 := (mw_cell (rowsV_below hR1.out hb6') hRk'.out hi1k hv1'.out).2.1 y hy81
                        have hfy6 := (Has.kept (by exact hHb1'.out) hb6).frozen y
                        go_wp2_with fail
                        refine hK.out _ _ (hSk.out _ hb6') (fun hHeld => ?_)
                        clear hK K
                        try simp only [Act.put, List.setIfInBounds_toArray, List.set_cons_zero, List.set_cons_succ]
                        refine wpAnyH_take (i := 25) (oi := _) (v := ?v25_24) rfl (by kernel_rfl) (by kernel_rfl) (by kernel_rfl) (fun _ _ _ h => h) (Or.inl ⟨by rfl, ?h25_24⟩) (by assumption) ?r25_24
                        case h25_24 => (intro w hSw; (try dsimp only at hSw); go_simp; try (with_reducible rfl))
                        try simp only [Act.put, List.setIfInBounds_toArray]
                        refine wpAnyH_take (i := 26) (oi := _) (v := ?v26_25) rfl (by kernel_rfl) (by kernel_rfl) (by kernel_rfl) (fun _ _ _ h => h) (Or.inl ⟨by rfl, ?h26_25⟩) (by assumption) ?r26_25
                        case h26_25 => (intro w hSw; (try dsimp only at hSw); go_simp; try (with_reducible rfl))
                        try simp only [Act.put]
                        refine wpAnyH_take (i := 27) (oi := _) (v := ?v27_26) rfl (by kernel_rfl) (by kernel_rfl) (by kernel_rfl) (fun _ _ _ h => h) (Or.inl ⟨by rfl, ?h27_26⟩) (by assumption) ?r27_26
                        case h27_26 => (intro w hSw; (try dsimp only at hSw); go_simp; try (with_reducible rfl))
                        try simp only [Act.put]
                        refine wpAnyH_ready (rs := [28]) (by kernel_rfl) (by simp) ?_
                        refine AllReadyH.cons (o := _) rfl (fun K hK => ?_) AllReadyH.nil
                        go_simp
                        refine hK.out _ _ (hSt.out _ _ hHeld) (fun hHeld => ?_)
                        clear hK K
                        try simp only [Act.put, List.setIfInBounds_toArray, List.set_cons_zero, List.set_cons_succ]
                        refine wpAnyH_done (by kernel_rfl) ?_ _
                        have hR6 := rowsV_below hR1.out hb6'
                        have hRf := Lib.hid (mw_put (x := ent rs i z * f) hR6 ha'.out hRk'.out hi1k hv1'.out hy81)
                        have hGf := Lib.hid ((hG1'.out.kept hb6').far (p := ⟨b1, y, none⟩) (by simp; omega) (.int .i64 (ent RS (i + 1) y + ent rs i z * f)))
                        have hBf := Lib.hid ((hB1.out.trans (hb6'.mono hzz)).setCell (p := ⟨b1, y, none⟩) hbb1 (.int .i64 (ent RS (i + 1) y + ent rs i z * f)))
                        clear hb6 hb6' hcy6 hfy6 hR6 hcy1 hfy1 hcg1 hcg0 hcz0 hcs1
                        go_wp2_with fail
                        go_roundg (3 - (d + 1))
                        case measure => omega
                        case rel => exact ⟨d + 1, by omega, rfl, by go_num, by rw [hmd'.out]; exact hRf.out, hBf.out, hGf.out⟩
                      refine AllReadyH.cons (o := _) rfl (fun K hK => ?_) AllReadyH.nil
                      go_simp
                      go_at_call 121
                      refine (cW.out _).mono ?_
                      rintro e w6 ⟨rfl, hb6⟩
                      have hb6' := ((Below.refl _ _).drew).trans hb6
                      have hcy6 := (mw_cell (rowsV_below hR1.out hb6') hRk'.out hi1k hv1'.out).2.1 y hy81
                      have hfy6 := (Has.kept (by exact hHb1'.out) hb6).frozen y
                      go_wp2_with fail
                      refine hK.out _ _ (hSk.out _ hb6') (fun hHeld => ?_)
                      clear hK K
                      try simp only [Act.put, List.setIfInBounds_toArray, List.set_cons_zero, List.set_cons_succ]
                      refine wpAnyH_take (i := 25) (oi := _) (v := ?v25_27) rfl (by kernel_rfl) (by kernel_rfl) (by kernel_rfl) (fun _ _ _ h => h) (Or.inl ⟨by rfl, ?h25_27⟩) (by assumption) ?r25_27
                      case h25_27 => (intro w hSw; (try dsimp only at hSw); go_simp; try (with_reducible rfl))
                      try simp only [Act.put, List.setIfInBounds_toArray]
                      refine wpAnyH_ready (rs := [13]) (by kernel_rfl) (by simp) ?_
                      refine AllReadyH.cons (o := _) rfl (fun K hK => ?_) AllReadyH.nil
                      go_simp
                      refine hK.out _ _ (hSk.out _ hb6') (fun hHeld => ?_)
                      clear hK K
                      try simp only [Act.put, List.setIfInBounds_toArray, List.set_cons_zero, List.set_cons_succ]
                      refine wpAnyH_take (i := 26) (oi := _) (v := ?v26_28) rfl (by kernel_rfl) (by kernel_rfl) (by kernel_rfl) (fun _ _ _ h => h) (Or.inl ⟨by rfl, ?h26_28⟩) (by assumption) ?r26_28
                      case h26_28 => (intro w hSw; (try dsimp only at hSw); go_simp; try (with_reducible rfl))
                      try simp only [Act.put, List.setIfInBounds_toArray]
                      refine wpAnyH_take (i := 27) (oi := _) (v := ?v27_29) rfl (by kernel_rfl) (by kernel_rfl) (by kernel_rfl) (fun _ _ _ h => h) (Or.inl ⟨by rfl, ?h27_29⟩) (by assumption) ?r27_29
                      case h27_29 => (intro w hSw; (try dsimp only at hSw); go_simp; try (with_reducible rfl))
                      try simp only [Act.put]
                      refine wpAnyH_ready (rs := [28]) (by kernel_rfl) (by simp) ?_
                      refine AllReadyH.cons (o := _) rfl (fun K hK => ?_) AllReadyH.nil
                      go_simp
                      refine hK.out _ _ (hSt.out _ _ hHeld) (fun hHeld => ?_)
                      clear hK K
                      try simp only [Act.put, List.setIfInBounds_toArray, List.set_cons_zero, List.set_cons_succ]
                      refine wpAnyH_done (by kernel_rfl) ?_ _
                      have hR6 := rowsV_below hR1.out hb6'
                      have hRf := Lib.hid (mw_put (x := ent rs i z * f) hR6 ha'.out hRk'.out hi1k hv1'.out hy81)
                      have hGf := Lib.hid ((hG1'.out.kept hb6').far (p := ⟨b1, y, none⟩) (by simp; omega) (.int .i64 (ent RS (i + 1) y + ent rs i z * f)))
                      have hBf := Lib.hid ((hB1.out.trans (hb6'.mono hzz)).setCell (p := ⟨b1, y, none⟩) hbb1 (.int .i64 (ent RS (i + 1) y + ent rs i z * f)))
                      clear hb6 hb6' hcy6 hfy6 hR6 hcy1 hfy1 hcg1 hcg0 hcz0 hcs1
                      go_wp2_with fail
                      go_roundg (3 - (d + 1))
                      case measure => omega
                      case rel => exact ⟨d + 1, by omega, rfl, by go_num, by rw [hmd'.out]; exact hRf.out, hBf.out, hGf.out⟩
                    · obtain rfl : d = 3 := by omega
                      have hF := Lib.hid (show MdL w wz base k os ds (.slice (some ⟨g, 0, none⟩) (k + 1) co) i (z + 1) from ⟨_, vs, hMs'.out.step hM.out hsok.1 hik hz81 hS.out, by rw [hmany.out]; exact hR, ha'.out, hB⟩)
                      have hGf := Lib.hid hG
                      clear hR hB hG
                      go_wp2_with fail
                      go_roundg (81 - (z + 1))
                      case measure => omega
                      case rel => exact ⟨z + 1, by omega, rfl, by go_num, hF.out, hGf.out⟩
            · obtain rfl : z = 81 := by omega
              have hF := Lib.hid (show MdL w wy base k os ds (.slice AO (k + 1) co) (i + 1) 0 from by
                obtain ⟨rs, vs, hMs, hR, ha, hB⟩ := hD
                exact ⟨rs, vs, hMs.next hik, hR, ha, hB⟩)
              clear hD hG
              go_wp2_with fail
              go_roundg (k - (i + 1))
              case measure => omega
              case rel => exact ⟨i + 1, by omega, rfl, by go_num, hF.out⟩
        · obtain rfl : i = k := by omega
          obtain ⟨rs, vs, hMs, hR, ha, hB⟩ := hD
          obtain ⟨g, b, cx, cur, rfl, hv, hcg, _, _, _, hO⟩ := mw_row hR hMs.1 (Nat.le_refl i)
          have hF := Lib.hid (show Pushd w base (pushed os ds) (.returned (.slice (some ⟨b, 0, none⟩) 81 cx)) wq from ⟨_, rfl, by
            have e : rs.getD i [] = pushed os ds := by
              apply List.ext_getElem?
              intro q
              by_cases hq : q < 81
              · rw [hMs.last hM.out hq]
                unfold pushed
                rw [List.getElem?_map, List.getElem?_range hq]; rfl
              · rw [List.getElem?_eq_none (by rw [(hMs.1.at_ (Nat.le_refl i)).2.1]; omega), List.getElem?_eq_none (by unfold pushed; rw [List.length_map, List.length_range]; omega)]
            rw [← e]
            exact hO, hB⟩)
          have hki0 : (0 : Int) ≤ (i : Int) := by omega
          have hki1 : (i : Int) < (i : Int) + 1 := by omega
          clear hMs hR ha hB hv hO
          go_wp2_with fail
          go_ret
          exact hF.out
end Go.Proofs.Ytbndonfpdioibaa
