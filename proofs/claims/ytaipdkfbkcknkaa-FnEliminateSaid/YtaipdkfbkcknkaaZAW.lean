/- Parts of the proof: KI. -/
import Derived.Test.YtaipdkfbkcknkaaZAV
import Derived.Test.YtaipdkfbkcknkaaZAM
namespace Go.Proofs.Ytaipdkfbkcknkaa
set_option maxRecDepth 100000
set_option linter.unusedVariables false
open Go.RowKit
theorem apart_pair {us : List Value} : Apart us ↔ us.Pairwise (fun x y => ∀ k, x.ownBlock = some k → y.ownBlock ≠ some k) := by
  rw [List.pairwise_iff_getElem]
  constructor
  · exact fun h i j hi hj hij => h i j _ _ hij (List.getElem?_eq_getElem hi) (List.getElem?_eq_getElem hj)
  · intro h i j x y hij hx hy
    obtain ⟨hi, rfl⟩ := List.getElem?_eq_some_iff.1 hx
    obtain ⟨hj, rfl⟩ := List.getElem?_eq_some_iff.1 hy
    exact h i j hi hj hij
theorem apart_sub {us ur : List Value} (h : Apart us) (hs : ur.Sublist us) : Apart ur := apart_pair.2 ((apart_pair.1 h).sublist hs)
theorem take_two {us : List Value} {k : Nat} {x y : Value} (hx : us[k * 2]? = some x) (hy : us[k * 2 + 1]? = some y) : us.take ((k + 1) * 2) = us.take (k * 2) ++ [x, y] := by
  obtain ⟨h1, e1⟩ := List.getElem?_eq_some_iff.1 hx
  obtain ⟨h2, e2⟩ := List.getElem?_eq_some_iff.1 hy
  rw [show (k + 1) * 2 = k * 2 + 1 + 1 by omega, List.take_succ_eq_append_getElem h2, List.take_succ_eq_append_getElem h1, e1, e2]
  simp
theorem nbS_take {Fs : List Fac} {k : Nat} {F : Fac} (h : Fs[k]? = some F) (v : Nat) : nbS (setsF (Fs.take (k + 1))) v = if tb (setOf F.vs) v = true then bor (nbS (setsF (Fs.take k)) v) (setOf F.vs) else nbS (setsF (Fs.take k)) v := by
  obtain ⟨hl, he⟩ := List.getElem?_eq_some_iff.1 h
  unfold nbS setsF
  rw [List.take_succ_eq_append_getElem hl, List.map_append, List.foldl_append, he]
  rfl
theorem strA_at (v1 v2 : Value) (f : Nat → Int) {v : Nat} (hv : v < 4) : (strA v1 v2 f)[2 + v]? = some (.int .i64 (f v)) := by
  obtain rfl | rfl | rfl | rfl : v = 0 ∨ v = 1 ∨ v = 2 ∨ v = 3 := by omega
  all_goals rfl
def Eld (w : World) (base : Nat) (Fs : List Fac) (e : Ending) (w' : World) : Prop := ∃ v us, e = .returned v ∧ RowsS w' base w.heap.size v Fs us ∧ Apart us ∧ Below w.heap.size w w'
set_option maxHeartbeats 4000000 in
theorem eliminated_any (A : Option Addr) (n c base ob : Nat) (Fs : List Fac) (us : List Value) (v : Fin 4) (w : World) (h : RowsS w base ob (.slice A n c) Fs us) (hn : Fs.length = n) (hn20 : n ≤ 20) (hf : Fine Fs) (hK : pb Fs ≤ 10000000000) (hap : Apart us) (hb : base ≤ w.heap.size) :
    Calls Try.prog 70 #[.slice A n c, .int .i64 (v.val : Int)] w (Eld w base (elim1 Fs (v.val : Int))) := by
  have hI := Lib.hid h
  have hnh := Lib.hid hn
  have hFh := Lib.hid hf
  have hKh := Lib.hid hK
  have hAh := Lib.hid hap
  have hbh := Lib.hid hb
  obtain ⟨i0, hi0, hz0, hz1', hz2'⟩ := info_parts info_str
  have cB := Lib.hid (fun wx => bitOf_any (v.val : Int) wx)
  have hv0 : (0 : Int) ≤ (v.val : Int) := by omega
  have hv4 : (v.val : Int) < 4 := by omega
  clear h hn hf hK hap hb
  go_enter Try.func70, Try.ntmps70
  go_wp2_with fail
  refine (cB.out _).mono ?_
  rintro e w' ⟨rfl, rfl⟩
  go_wp2_with fail
  go_loopg [5, 6, 7, 14] n (fun gq hv rv y x wr => ∃ (k : Nat) (uh ur : List Value), k ≤ n ∧ gq = n - k ∧ x = .int .i64 k ∧ y = .int .i64 (nbS (setsF (Fs.take k)) v.val) ∧ RowsS wr base w.heap.size hv (havF (Fs.take k) (v.val : Int)) uh ∧ RowsS wr base w.heap.size rv (witF (Fs.take k) (v.val : Int)) ur ∧ ur.Sublist (us.take (k * 2)) ∧ (∀ b, hv.ownBlock = some b → rv.ownBlock ≠ some b) ∧ Below w.heap.size w wr)
  case atStart => exact ⟨0, [], [], Nat.zero_le _, rfl, rfl, rfl, ⟨World.ownsRow_nil _ _ _ _, InnF.nil _ _⟩, ⟨World.ownsRow_nil _ _ _ _, InnF.nil _ _⟩, List.Sublist.refl _, fun b e => (by cases e), Below.refl _ _⟩
  case round =>
    obtain ⟨k, uh, ur, hk, hgn, rfl, rfl, hH, hR, hs, hdj, hB⟩ := hrel
    have hgk : gk = n - k := hgn
    obtain ⟨mh, hmh⟩ : ∃ mh, (havF (Fs.take k) (v.val : Int)).length = mh := ⟨_, rfl⟩
    obtain ⟨mr, hmr⟩ : ∃ mr, (witF (Fs.take k) (v.val : Int)).length = mr := ⟨_, rfl⟩
    have hmhl : mh ≤ n := by rw [← hmh]; exact Nat.le_trans (List.length_filter_le _ _) (by rw [List.length_take]; omega)
    have hmrl : mr ≤ n := by rw [← hmr]; exact Nat.le_trans (List.length_filter_le _ _) (by rw [List.length_take]; omega)
    obtain ⟨Ah, ch, rfl, _, _⟩ := hH.form
    obtain ⟨Ar, cr, rfl, _, _⟩ := hR.form
    rw [hmh, hmr]
    rw [hmh] at hH hdj
    rw [hmr] at hR hdj
    have kD := Lib.hid hdj
    have kH := Lib.hid hH
    have kR := Lib.hid hR
    have ks := Lib.hid hs
    have kB := Lib.hid hB
    have hmhh := Lib.hid hmh
    have hmrh := Lib.hid hmr
    clear hgn hH hR hs hdj hmh hmr
    by_cases hlt : k < n
    · have hk0 : (0 : Int) ≤ (k : Int) := by omega
      have hk1 : (k : Int) < (n : Int) := by omega
      obtain ⟨F, hFk⟩ : ∃ F, Fs[k]? = some F := ⟨_, List.getElem?_eq_getElem (by have := hnh.out; omega)⟩
      obtain ⟨g, A1, c1, A2, c2, rfl, hg, hu1, hu2, hcl, ho1, ho2⟩ := (hI.out.below hB).at_ hnh.out hFk
      have hFo := hFh.out F (List.mem_of_getElem? hFk)
      obtain ⟨p1, p2, p3, p4, p5⟩ := fac_parts hFo
      obtain ⟨Lf, hLf, hLs, _⟩ := fac_set hFo
      have hLb : 0 ≤ setOf F.vs ∧ setOf F.vs ≤ 15 := by rw [hLs]; omega
      have hzz : (strL (setOf F.vs) v.val == 0) = !hasF (v.val : Int) F := by rw [has_tb hFo v, hLs]; exact strL_zero Lf v
      have hwt := wit_take hFk (v.val : Int)
      have hnt := nbS_take hFk v.val
      rw [← has_tb hFo v] at hnt
      have htw := Lib.hid (take_two hu1 hu2)
      have hal : Below wr.heap.size wr (wr.alloc (.cells (strA (.slice A1 F.vs.length c1) (.slice A2 F.ns.length c2) (strL (setOf F.vs))) 79)) := (Below.refl _ _).alloc (Nat.le_refl _) _
      have hX := Lib.hid (Has.new wr 79 (strA (.slice A1 F.vs.length c1) (.slice A2 F.ns.length c2) (strL (setOf F.vs))))
      have hvc : (wr.alloc (.cells (strA (.slice A1 F.vs.length c1) (.slice A2 F.ns.length c2) (strL (setOf F.vs))) 79)).cell? ⟨wr.heap.size, 2 + v.val, none⟩ = some (.int .i64 (strL (setOf F.vs) v.val)) := by rw [hX.out.cell]; exact strA_at _ _ _ (by omega)
      have h1 := Lib.hid (kH.out.below hal)
      have h2 := Lib.hid (kR.out.below hal)
      have h3 := Lib.hid (ho1.below hal)
      have h4 := Lib.hid (ho2.below hal)
      have h5 := Lib.hid (hB.trans (hal.mono hB.size))
      have cl0 : wr.cell? ⟨g, k * 6, none⟩ = some (.slice A1 F.vs.length c1) := hcl 0 (by decide)
      have cl1 : wr.cell? ⟨g, k * 6 + 1, none⟩ = some (.slice A2 F.ns.length c2) := hcl 1 (by decide)
      have cl2 : wr.cell? ⟨g, k * 6 + 2, none⟩ = some (.int .i64 (strL (setOf F.vs) 0)) := hcl 2 (by decide)
      have cl3 : wr.cell? ⟨g, k * 6 + 3, none⟩ = some (.int .i64 (strL (setOf F.vs) 1)) := hcl 3 (by decide)
      have cl4 : wr.cell? ⟨g, k * 6 + 4, none⟩ = some (.int .i64 (strL (setOf F.vs) 2)) := hcl 4 (by decide)
      have cl5 : wr.cell? ⟨g, k * 6 + 5, none⟩ = some (.int .i64 (strL (setOf F.vs) 3)) := hcl 5 (by decide)
      have cV := Lib.hid (fun wx hx => varsOf_any A1 A2 F.vs.length c1 F.ns.length c2 F wx hx (by unfold maxLen; omega) p5)
      have hbo := bits_or (nbS_bd (ss := setsF (Fs.take k)) (sets_sts (fine_take hFh.out k)) v.val) hLb
      have hzW := Lib.hid hB.size
      cases hh : hasF (v.val : Int) F
      · obtain ⟨t1, t2⟩ := hwt.2 hh
        rw [hh, if_neg (by decide)] at hnt
        rw [hh] at hzz
        have n1 := Lib.hid hnt
        have n2 := Lib.hid t1
        have n3 := Lib.hid t2
        clear hwt hnt hh t1 t2 hFo p1 p2 p3 p4 p5 hLf hLs hLb hal hcl hu1 hu2 ho1 ho2 hFk hB hbo
        unfold strA at hX hvc h1 h2 h3 h4 h5
        have hal5 : Below (wr.alloc (.cells #[.slice A1 F.vs.length c1, .slice A2 F.ns.length c2, .int .i64 (strL (setOf F.vs) 0), .int .i64 (strL (setOf F.vs) 1), .int .i64 (strL (setOf F.vs) 2), .int .i64 (strL (setOf F.vs) 3)] 79)).heap.size (wr.alloc (.cells #[.slice A1 F.vs.length c1, .slice A2 F.ns.length c2, .int .i64 (strL (setOf F.vs) 0), .int .i64 (strL (setOf F.vs) 1), .int .i64 (strL (setOf F.vs) 2), .int .i64 (strL (setOf F.vs) 3)] 79)) ((wr.alloc (.cells #[.slice A1 F.vs.length c1, .slice A2 F.ns.length c2, .int .i64 (strL (setOf F.vs) 0), .int .i64 (strL (setOf F.vs) 1), .int .i64 (strL (setOf F.vs) 2), .int .i64 (strL (setOf F.vs) 3)] 79)).alloc (.cells #[.slice A1 F.vs.length c1, .slice A2 F.ns.length c2, .int .i64 (strL (setOf F.vs) 0), .int .i64 (strL (setOf F.vs) 1), .int .i64 (strL (setOf F.vs) 2), .int .i64 (strL (setOf F.vs) 3)] 79)) := (Below.refl _ _).alloc (Nat.le_refl _) _
        have a1 := Lib.hid (h1.out.below hal5)
        have a2 := Lib.hid (h2.out.below hal5)
        have a3 := Lib.hid (h3.out.below hal5)
        have a4 := Lib.hid (h4.out.below hal5)
        have a5 := Lib.hid (h5.out.trans (hal5.mono h5.out.size))
        have aX := Lib.hid (hX.out.kept hal5)
        have hO5 := Lib.hid (show ((wr.alloc (.cells #[.slice A1 F.vs.length c1, .slice A2 F.ns.length c2, .int .i64 (strL (setOf F.vs) 0), .int .i64 (strL (setOf F.vs) 1), .int .i64 (strL (setOf F.vs) 2), .int .i64 (strL (setOf F.vs) 3)] 79)).alloc (.cells #[.slice A1 F.vs.length c1, .slice A2 F.ns.length c2, .int .i64 (strL (setOf F.vs) 0), .int .i64 (strL (setOf F.vs) 1), .int .i64 (strL (setOf F.vs) 2), .int .i64 (strL (setOf F.vs) 3)] 79)).ownsRow w.heap.size 79 6 (.slice Ar mr cr) mr (sflat _ ur) from by have h9 := a2.out.1; rwa [hmrh.out] at h9)
        have hnw := Lib.hid (World.news_of_block (Has.newAt (w := (wr.alloc (.cells #[.slice A1 F.vs.length c1, .slice A2 F.ns.length c2, .int .i64 (strL (setOf F.vs) 0), .int .i64 (strL (setOf F.vs) 1), .int .i64 (strL (setOf F.vs) 2), .int .i64 (strL (setOf F.vs) 3)] 79))) (n := wr.heap.size + 1) (t := 79) (cs := #[.slice A1 F.vs.length c1, .slice A2 F.ns.length c2, .int .i64 (strL (setOf F.vs) 0), .int .i64 (strL (setOf F.vs) 1), .int .i64 (strL (setOf F.vs) 2), .int .i64 (strL (setOf F.vs) 3)]) (by simp)))
        have hsz5 := Lib.hid a5.out.size
        have hlt5 := Lib.hid (show wr.heap.size < wr.heap.size + 1 + 1 by omega)
        have hbl := Lib.hid (fun b (e : (Value.slice Ah mh ch).ownBlock = some b) => show b < wr.heap.size from (World.ownsRow.lt kH.out.1 b e).2)
        have hbr := Lib.hid (fun b (e : (Value.slice Ar mr cr).ownBlock = some b) => show b < wr.heap.size from (World.ownsRow.lt kR.out.1 b e).2)
        clear hal5
        go_wp2_with (at_builtin; refine wpList_append_lies _ rfl (.tmp 23) (.tmp 25) 74 rfl w.heap.size 79 i0 _ 6 80 Try.underlying74 hi0 hz0 hz1' hz2' rfl (by decide) (.slice Ar mr cr) mr _ rfl (by exact hO5.out) ⟨wr.heap.size + 1, 0, none⟩ 1 1 [.slice A1 F.vs.length c1, .slice A2 F.ns.length c2, .int .i64 (strL (setOf F.vs) 0), .int .i64 (strL (setOf F.vs) 1), .int .i64 (strL (setOf F.vs) 2), .int .i64 (strL (setOf F.vs) 3)] rfl rfl (by exact hnw.out) (by simp [Value.oneCell']) (by omega) (by unfold maxLen; omega) (by omega) (by exact hsz5.out) (wr.heap.size + 1 + 1) (by simp) ?_; intro gr cr2 w6 hown6 hgrow6 hat6 hlt6; have hk6 : KeptBut _ w6 (fun i => (Value.slice Ar mr cr).ownBlock = some i) := KeptBut.of_grown hgrow6 (fun k e => e); have aX6 := Lib.hid (aX.out.but hk6 (fun e => by have := hbr.out _ e; omega)); have hx6 := aX6.out.cell)
        have bN := Lib.hid (RowsS.append_ (F := F) (x := .slice A1 F.vs.length c1) (y := .slice A2 F.ns.length c2) a2.out a3.out a4.out (by rw [hmrh.out]; exact hown6) hgrow6)
        have bO := Lib.hid (show RowsS w6 base w.heap.size (.slice Ah mh ch) _ _ from ⟨owns_but a1.out.1 hk6 (fun b e1 e2 => kD.out b e1 e2), a1.out.2.but hk6 (fun b cur hc _ _ e => by obtain ⟨c9, g9⟩ := owns_has hO5.out e; exact has_ne hc g9 int_ne_str rfl)⟩)
        have bB := Lib.hid (a5.out.grown hgrow6 a5.out.size (fun b e => (World.ownsRow.lt hO5.out b e).1))
        have bD := Lib.hid (show ∀ b, (Value.slice Ah mh ch).ownBlock = some b → (Value.slice (some ⟨gr, 0, none⟩) (mr + 1) cr2).ownBlock ≠ some b from fun b e1 e2 => by
          have e3 : gr = b := by injection e2
          rcases hat6 with h9 | h9
          · exact kD.out b e1 (by rw [h9, e3])
          · have := hbl.out b e1; omega)
        clear hown6 hgrow6 hat6 hk6
        clear hx6
        go_wp2_with fail
        go_roundg (n - (k + 1))
        case measure => omega
        case rel => exact ⟨k + 1, uh, _, by omega, rfl, by go_num, by rw [n1.out], by rw [n2.out]; exact bO.out, by rw [n3.out]; exact bN.out, by rw [htw.out]; exact ks.out.append (List.Sublist.refl _), bD.out, bB.out⟩
      · obtain ⟨t1, t2⟩ := hwt.1 hh
        rw [hh, if_pos rfl] at hnt
        rw [hh] at hzz
        have n1 := Lib.hid hnt
        have n2 := Lib.hid t1
        have n3 := Lib.hid t2
        have hbo' := hbo
        clear hwt hnt hh t1 t2 hFo p1 p2 p3 p4 p5 hLf hLs hLb hal hcl hu1 hu2 ho1 ho2 hFk hB hbo
        unfold strA at hX hvc h1 h2 h3 h4 h5
        have hal5 : Below (wr.alloc (.cells #[.slice A1 F.vs.length c1, .slice A2 F.ns.length c2, .int .i64 (strL (setOf F.vs) 0), .int .i64 (strL (setOf F.vs) 1), .int .i64 (strL (setOf F.vs) 2), .int .i64 (strL (setOf F.vs) 3)] 79)).heap.size (wr.alloc (.cells #[.slice A1 F.vs.length c1, .slice A2 F.ns.length c2, .int .i64 (strL (setOf F.vs) 0), .int .i64 (strL (setOf F.vs) 1), .int .i64 (strL (setOf F.vs) 2), .int .i64 (strL (setOf F.vs) 3)] 79)) ((wr.alloc (.cells #[.slice A1 F.vs.length c1, .slice A2 F.ns.length c2, .int .i64 (strL (setOf F.vs) 0), .int .i64 (strL (setOf F.vs) 1), .int .i64 (strL (setOf F.vs) 2), .int .i64 (strL (setOf F.vs) 3)] 79)).alloc (.cells #[.slice A1 F.vs.length c1, .slice A2 F.ns.length c2, .int .i64 (strL (setOf F.vs) 0), .int .i64 (strL (setOf F.vs) 1), .int .i64 (strL (setOf F.vs) 2), .int .i64 (strL (setOf F.vs) 3)] 79)) := (Below.refl _ _).alloc (Nat.le_refl _) _
        have a1 := Lib.hid (h1.out.below hal5)
        have a2 := Lib.hid (h2.out.below hal5)
        have a3 := Lib.hid (h3.out.below hal5)
        have a4 := Lib.hid (h4.out.below hal5)
        have a5 := Lib.hid (h5.out.trans (hal5.mono h5.out.size))
        have aX := Lib.hid (hX.out.kept hal5)
        have hO5 := Lib.hid (show ((wr.alloc (.cells #[.slice A1 F.vs.length c1, .slice A2 F.ns.length c2, .int .i64 (strL (setOf F.vs) 0), .int .i64 (strL (setOf F.vs) 1), .int .i64 (strL (setOf F.vs) 2), .int .i64 (strL (setOf F.vs) 3)] 79)).alloc (.cells #[.slice A1 F.vs.length c1, .slice A2 F.ns.length c2, .int .i64 (strL (setOf F.vs) 0), .int .i64 (strL (setOf F.vs) 1), .int .i64 (strL (setOf F.vs) 2), .int .i64 (strL (setOf F.vs) 3)] 79)).ownsRow w.heap.size 79 6 (.slice Ah mh ch) mh (sflat _ uh) from by have h9 := a1.out.1; rwa [hmhh.out] at h9)
        have hnw := Lib.hid (World.news_of_block (Has.newAt (w := (wr.alloc (.cells #[.slice A1 F.vs.length c1, .slice A2 F.ns.length c2, .int .i64 (strL (setOf F.vs) 0), .int .i64 (strL (setOf F.vs) 1), .int .i64 (strL (setOf F.vs) 2), .int .i64 (strL (setOf F.vs) 3)] 79))) (n := wr.heap.size + 1) (t := 79) (cs := #[.slice A1 F.vs.length c1, .slice A2 F.ns.length c2, .int .i64 (strL (setOf F.vs) 0), .int .i64 (strL (setOf F.vs) 1), .int .i64 (strL (setOf F.vs) 2), .int .i64 (strL (setOf F.vs) 3)]) (by simp)))
        have hsz5 := Lib.hid a5.out.size
        have hlt5 := Lib.hid (show wr.heap.size < wr.heap.size + 1 + 1 by omega)
        have hbl := Lib.hid (fun b (e : (Value.slice Ah mh ch).ownBlock = some b) => show b < wr.heap.size from (World.ownsRow.lt kH.out.1 b e).2)
        have hbr := Lib.hid (fun b (e : (Value.slice Ar mr cr).ownBlock = some b) => show b < wr.heap.size from (World.ownsRow.lt kR.out.1 b e).2)
        clear hal5
        go_wp2_with (at_builtin; refine wpList_append_lies _ rfl (.tmp 27) (.tmp 29) 74 rfl w.heap.size 79 i0 _ 6 80 Try.underlying74 hi0 hz0 hz1' hz2' rfl (by decide) (.slice Ah mh ch) mh _ rfl (by exact hO5.out) ⟨wr.heap.size + 1, 0, none⟩ 1 1 [.slice A1 F.vs.length c1, .slice A2 F.ns.length c2, .int .i64 (strL (setOf F.vs) 0), .int .i64 (strL (setOf F.vs) 1), .int .i64 (strL (setOf F.vs) 2), .int .i64 (strL (setOf F.vs) 3)] rfl rfl (by exact hnw.out) (by simp [Value.oneCell']) (by omega) (by unfold maxLen; omega) (by omega) (by exact hsz5.out) (wr.heap.size + 1 + 1) (by simp) ?_; intro gr cr2 w6 hown6 hgrow6 hat6 hlt6; have hk6 : KeptBut _ w6 (fun i => (Value.slice Ah mh ch).ownBlock = some i) := KeptBut.of_grown hgrow6 (fun k e => e); have aX6 := Lib.hid (aX.out.but hk6 (fun e => by have := hbl.out _ e; omega)); have hx6 := aX6.out.cell)
        have bN := Lib.hid (RowsS.append_ (F := F) (x := .slice A1 F.vs.length c1) (y := .slice A2 F.ns.length c2) a1.out a3.out a4.out (by rw [hmhh.out]; exact hown6) hgrow6)
        have bO := Lib.hid (show RowsS w6 base w.heap.size (.slice Ar mr cr) _ _ from ⟨owns_but a2.out.1 hk6 (fun b e1 e2 => kD.out b e2 e1), a2.out.2.but hk6 (fun b cur hc _ _ e => by obtain ⟨c9, g9⟩ := owns_has hO5.out e; exact has_ne hc g9 int_ne_str rfl)⟩)
        have bB := Lib.hid (a5.out.grown hgrow6 a5.out.size (fun b e => (World.ownsRow.lt hO5.out b e).1))
        have bD := Lib.hid (show ∀ b, (Value.slice (some ⟨gr, 0, none⟩) (mh + 1) cr2).ownBlock = some b → (Value.slice Ar mr cr).ownBlock ≠ some b from fun b e1 e2 => by
          have e3 : gr = b := by injection e1
          rcases hat6 with h9 | h9
          · exact kD.out b (by rw [h9, e3]) e2
          · have := hbr.out b e2; omega)
        clear hown6 hgrow6 hat6 hk6
        have hFw := Lib.hid (show FacW w6 w6.heap.size A1 F.vs.length A2 F.ns.length F from by
          have q1 := bN.out.2.2 (uh.length) (.slice A1 F.vs.length c1) (by rw [List.getElem?_append_right (Nat.le_refl _), Nat.sub_self]; rfl)
          have q2 := bN.out.2.2 (uh.length + 1) (.slice A2 F.ns.length c2) (by rw [List.getElem?_append_right (by omega), show uh.length + 1 - uh.length = 1 by omega]; rfl)
          have hl9 := kH.out.2.1
          have hrl := rowsF_len (havF (List.take k Fs) (v.val : Int))
          have hrf : rowsF (havF (List.take k Fs) (v.val : Int) ++ [F]) = rowsF (havF (List.take k Fs) (v.val : Int)) ++ [F.vs, F.ns] := by unfold rowsF; rw [List.flatMap_append]; rfl
          rw [hrf] at q1 q2
          obtain ⟨d1, e1, o1⟩ := q1
          obtain ⟨d2, e2, o2⟩ := q2
          rw [List.getElem?_append_right (by omega), hrl, hl9, Nat.sub_self] at e1
          rw [List.getElem?_append_right (by omega), hrl, hl9, show (havF (List.take k Fs) (v.val : Int)).length * 2 + 1 - (havF (List.take k Fs) (v.val : Int)).length * 2 = 1 by omega] at e2
          obtain rfl : F.vs = d1 := Option.some.inj e1
          obtain rfl : F.ns = d2 := Option.some.inj e2
          exact ⟨IOwn.lst o1, IOwn.lst o2⟩)
        go_wp2_with fail
        refine (cV.out _ hFw.out).mono ?_
        rintro e w7 ⟨rfl, hb7⟩
        have z1 := Lib.hid (bN.out.below hb7)
        have z2 := Lib.hid (bO.out.below hb7)
        have z3 := Lib.hid (bB.out.trans (hb7.mono bB.out.size))
        clear hb7 hx6
        go_wp2_with fail
        go_roundg (n - (k + 1))
        case measure => omega
        case rel => exact ⟨k + 1, _, ur, by omega, rfl, by go_num, by rw [n1.out], by rw [n2.out]; exact z1.out, by rw [n3.out]; exact z2.out, by rw [htw.out]; exact ks.out.trans (List.sublist_append_left _ _), bD.out, z3.out⟩
    · obtain rfl : k = n := by omega
      have htk : Fs.take k = Fs := List.take_of_length_le (by rw [hnh.out]; exact Nat.le_refl _)
      rw [htk] at kH kR hmhh hmrh ⊢
      have hks : ur.Sublist us := ks.out.trans (List.take_sublist _ _)
      have hUb := nbS_bd (ss := setsF Fs) (sets_sts hFh.out) v.val
      have hdf := bits_diff hUb (bitN_le (v.val : Int))
      have hLb := bdf_bd (a := nbS (setsF Fs) v.val) (b := bitN (v.val : Int)) hUb.2
      have hKk : pb (havF Fs (v.val : Int)) ≤ 10000000000 := Int.le_trans (pb_sub (hasF (v.val : Int)) Fs) hKh.out
      have cP := Lib.hid (productTo_any Ah mh ch base w.heap.size (havF Fs (v.val : Int)) uh (nbS (setsF Fs) v.val) (bdf (nbS (setsF Fs) v.val) (bitN (v.val : Int))) wr kH.out hmhh.out (by omega) (fine_filter hFh.out (hasF (v.val : Int))) hKk hUb hLb)
      rw [sumT_elim hFh.out v] at cP
      have hap := Lib.hid (apart_sub hAh.out hks)
      have hEe : elim1 Fs (v.val : Int) = witF Fs (v.val : Int) ++ [elimF Fs (v.val : Int)] := rfl
      have hz := Lib.hid hB.size
      rw [hEe]
      generalize elimF Fs (v.val : Int) = E at *
      generalize nbS (setsF Fs) v.val = U at *
      generalize bdf U (bitN (v.val : Int)) = L at *
      have hEh := Lib.hid hEe
      clear hEe htk hks hUb hLb hKk hB
      go_wp2_with fail
      refine (cB.out _).mono ?_
      rintro e w' ⟨rfl, rfl⟩
      go_wp2_with fail
      refine cP.out.mono ?_
      rintro e w3 ⟨v1, v2, rfl, hV, hb3⟩
      obtain ⟨X1, x1, rfl, _, _⟩ := hV.1.form
      obtain ⟨X2, x2, rfl, _, _⟩ := hV.2.1.form
      have hal : Below w3.heap.size w3 (w3.alloc (.cells #[.slice X1 E.vs.length x1, .slice X2 E.ns.length x2, .int .i64 (strL (setOf E.vs) 0), .int .i64 (strL (setOf E.vs) 1), .int .i64 (strL (setOf E.vs) 2), .int .i64 (strL (setOf E.vs) 3)] 79)) := (Below.refl _ _).alloc (Nat.le_refl _) _
      have a2 := Lib.hid ((kR.out.below hb3).below hal)
      have hbz : base ≤ wr.heap.size := Nat.le_trans hbh.out hz.out
      have a3 := Lib.hid (owns_le (hV.1.below hal) hbz)
      have a4 := Lib.hid (owns_le (hV.2.1.below hal) hbz)
      have a5 := Lib.hid ((kB.out.trans (hb3.mono hz.out)).trans (hal.mono (Nat.le_trans hz.out hb3.size)))
      have hO5 := Lib.hid (show (w3.alloc (.cells #[.slice X1 E.vs.length x1, .slice X2 E.ns.length x2, .int .i64 (strL (setOf E.vs) 0), .int .i64 (strL (setOf E.vs) 1), .int .i64 (strL (setOf E.vs) 2), .int .i64 (strL (setOf E.vs) 3)] 79)).ownsRow w.heap.size 79 6 (.slice Ar mr cr) mr (sflat _ ur) from by have h9 := a2.out.1; rwa [hmrh.out] at h9)
      have hnw := Lib.hid (World.news_of_block (Has.new w3 79 #[.slice X1 E.vs.length x1, .slice X2 E.ns.length x2, .int .i64 (strL (setOf E.vs) 0), .int .i64 (strL (setOf E.vs) 1), .int .i64 (strL (setOf E.vs) 2), .int .i64 (strL (setOf E.vs) 3)]))
      have hsz5 := Lib.hid a5.out.size
      have hapn := Lib.hid (show Apart (ur ++ [.slice X1 E.vs.length x1, .slice X2 E.ns.length x2]) from by
        rw [show ur ++ [Value.slice X1 E.vs.length x1, .slice X2 E.ns.length x2] = (ur ++ [.slice X1 E.vs.length x1]) ++ [.slice X2 E.ns.length x2] by simp]
        refine (hap.out.snoc fun y hy b hb e => ?_).snoc fun y hy b hb e => ?_
        · have q1 := kR.out.2.blk y hy b hb
          have q2 := (World.ownsRow.lt hV.1 b e).1
          omega
        · rcases List.mem_append.1 hy with hy | hy
          · have q1 := kR.out.2.blk y hy b hb
            have q2 := (World.ownsRow.lt hV.2.1 b e).1
            omega
          · have hy' : y = .slice X1 E.vs.length x1 := by simpa using hy
            subst hy'
            exact hV.2.2 b hb e)
      clear hal hV hb3 hbz
      unfold strA
      go_wp2_with (at_builtin; refine wpList_append_lies _ rfl (.tmp 37) (.tmp 45) 74 rfl w.heap.size 79 i0 _ 6 80 Try.underlying74 hi0 hz0 hz1' hz2' rfl (by decide) (.slice Ar mr cr) mr _ rfl (by exact hO5.out) ⟨w3.heap.size, 0, none⟩ 1 1 [.slice X1 E.vs.length x1, .slice X2 E.ns.length x2, .int .i64 (strL (setOf E.vs) 0), .int .i64 (strL (setOf E.vs) 1), .int .i64 (strL (setOf E.vs) 2), .int .i64 (strL (setOf E.vs) 3)] rfl rfl (by exact hnw.out) (by simp [Value.oneCell']) (by omega) (by unfold maxLen; omega) (by omega) (by exact hsz5.out) (w3.heap.size + 1) (by simp) ?_; intro gr cr2 w6 hown6 hgrow6 hat6 hlt6)
      have bN := Lib.hid (RowsS.append_ (F := E) (x := .slice X1 E.vs.length x1) (y := .slice X2 E.ns.length x2) a2.out a3.out a4.out (by rw [hmrh.out]; exact hown6) hgrow6)
      have bB := Lib.hid (a5.out.grown hgrow6 a5.out.size (fun b e => (World.ownsRow.lt hO5.out b e).1))
      clear hown6 hgrow6 hat6
      go_wp2_with fail
      go_ret
      exact ⟨.slice (some ⟨gr, 0, none⟩) (mr + 1) cr2, _, rfl, by rw [hEh.out]; exact bN.out, hapn.out, bB.out⟩
end Go.Proofs.Ytaipdkfbkcknkaa
