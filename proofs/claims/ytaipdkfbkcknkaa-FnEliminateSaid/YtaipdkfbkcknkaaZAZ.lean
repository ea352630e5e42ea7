/- Parts of the proof: KS, KL. -/
import Derived.Test.YtaipdkfbkcknkaaZAX
import Derived.Test.YtaipdkfbkcknkaaZAY
namespace Go.Proofs.Ytaipdkfbkcknkaa
set_option maxRecDepth 100000
set_option linter.unusedVariables false
open Go.RowKit
theorem IOwn.cut {w : World} {base n c k : Nat} {A : Option Addr} {ds : List Int} (h : IOwn w base (.slice A n c) ds) (hk : k ≤ n) : IOwn w base (.slice A k c) (ds.take k) := by
  obtain ⟨hl, _, _⟩ := row_cap h
  rcases h.2 with ⟨hv, h0⟩ | ⟨g, cap, cur, hv, hg, hh, h1, h2, h3, h4⟩
  · injection hv with e1 e2 e3
    subst e1 e2 e3
    obtain rfl : k = 0 := by omega
    rw [List.take_zero]
    exact IOwn.nil _ _
  · injection hv with e1 e2 e3
    subst e1 e3
    have hlk : (ds.take k).length = k := by rw [List.length_take]; omega
    refine ⟨by rw [ints_length, Nat.mul_one], .inr ⟨g, c, cur, by rw [hlk], hg, hh, by rw [hlk]; omega, h2, h3, ?_⟩⟩
    rw [hlk, Nat.mul_one]
    rw [Nat.mul_one, hl] at h4
    have : cur.toList.take k = (ints ds).take k := by rw [← h4, List.take_take, Nat.min_eq_left hk]
    rw [this]
    unfold ints
    rw [List.map_take]
theorem RowsV.chg9 {w w' : World} {base R : Nat} {v : Value} {rs : List (List Int)} {vs : List Value} (h : RowsV w base v rs vs) (hc : Chg w w' R) (hR : R < base) : RowsV w' base v rs vs :=
  ⟨owns_chgD h.1 hc hR, fun i x hx => by
    obtain ⟨ds, h1, h2⟩ := h.2 i x hx
    exact ⟨ds, h1, owns_chgD h2 hc hR⟩⟩
def OrD (w : World) (B R : Nat) (A : Option Addr) (n c p : Nat) (e : Ending) (w' : World) : Prop :=
  ∃ (v : Value) (os : List Int) (p' : Nat), e = .returned v ∧ IOwn w' w.heap.size v os ∧ os.length ≤ 5 ∧ Rdr w' B R A n c p' ∧ p' ≤ p + 10 ∧ Chg w w' R
set_option maxHeartbeats 1000000 in
theorem l9Order_any (R : Nat) (A : Option Addr) (n c p B : Nat) (w : World) (h : Rdr w B R A n c p) (hp : p ≤ 500000) (hn : n ≤ 2000) (hB : B ≤ w.heap.size) :
    Calls Try.prog 81 #[.pointer (some ⟨R, 0, none⟩)] w (OrD w B R A n c p) := by
  have hRl := h.lt
  have cR := Lib.hid (fun (g c base : Nat) (wx : World) (hx : IOwn wx base (.slice (some ⟨g, 0, none⟩) 0 c) []) (hb : base ≤ wx.heap.size) => show Calls Try.prog 76 #[.slice (some ⟨g, 0, none⟩) 0 c] wx (Rwd wx base (perms.map nats)) from by
    have := l9Rows_any 4 [] rfl (some ⟨g, 0, none⟩) c base wx hx hb
    rwa [rw_perms] at this)
  have hpl := Lib.hid (show (perms.map nats).length = 24 by rw [List.length_map, perms_len])
  have hlen4 : ∀ p ∈ perms, p.length = 4 := by decide +kernel
  have hp4 := Lib.hid (fun (k : Nat) (ds : List Int) (h : (perms.map nats)[k]? = some ds) => show ds.length = 4 from by
    rw [List.getElem?_map] at h
    obtain ⟨q, hq, rfl⟩ := Option.map_eq_some_iff.1 h
    unfold nats
    rw [List.length_map]
    exact hlen4 q (List.mem_of_getElem? hq))
  obtain ⟨i0, hi0, hi1, hi2, hi3⟩ := info_parts info_int
  have kr := Lib.hid h
  have hO0 := Lib.hid (show IOwn (w.alloc (.cells #[] 3)) w.heap.size (.slice (some ⟨w.heap.size, 0, none⟩) 0 0) [] from
    ⟨rfl, .inr ⟨w.heap.size, 0, #[], rfl, Nat.le_refl _, Has.new w _ _, Nat.le_refl _, Nat.zero_le _, rfl, rfl⟩⟩)
  have hal := Lib.hid (show Below w.heap.size w (w.alloc (.cells #[] 3)) from (Below.refl _ _).alloc (Nat.le_refl _) _)
  clear h hlen4
  go_enter Try.func81, Try.ntmps81
  go_wp2_with fail
  refine (cR.out _ _ w.heap.size _ hO0.out hal.out.size).mono ?_
  rintro e w2 ⟨v2, vs, rfl, hR, hb2⟩
  obtain ⟨Ar, cr, rfl, _, _⟩ := hR.form
  rw [hpl.out] at hR ⊢
  have kR := Lib.hid hR
  have hb0 := hal.out.trans (hb2.mono hal.out.size)
  have kr2 := Lib.hid (show Rdr w2 B R A n c p from ⟨Has.kept kr.out.1 hb0, kr.out.2.1, kr.out.2.2.keep (hb0.mono hB)⟩)
  have kC2 := Lib.hid (show Chg w w2 R from ⟨hb0.os, hb0.tape, hb0.output, hb0.size, fun i hi _ => hb0.block i hi⟩)
  have hz2 := hb0.size
  clear hR hb2 hb0
  go_wp2_with fail
  refine (pick_any R A n c p B 24 _ kr2.out (by omega) hn (by decide)).mono ?_
  rintro e w3 ⟨x, rfl, hx0, hx24, hr3, hc3⟩
  obtain ⟨X, rfl⟩ : ∃ X : Nat, x = (X : Int) := ⟨x.toNat, by omega⟩
  have hX : X < 24 := by omega
  have kR3 := Lib.hid (RowsV.chg9 kR.out hc3 hRl)
  have kr3 := Lib.hid hr3
  have kC3 := Lib.hid (kC2.out.trans hc3)
  obtain ⟨g, Ax, cx, ds, rfl, hd1, hc9, hr9, ho9⟩ := kR3.out.at_ (k := X) hpl.out hX
  have hds := hp4.out X ds hr9
  have ho3 := Lib.hid ho9
  rw [hds] at hc9 ho3
  obtain ⟨_, hcx, hcxm⟩ := row_cap ho3.out
  clear hr3 hc3 ho9 hr9
  go_wp2_with fail
  refine (pick_any R A n c (p + 1) B 5 _ kr3.out (by omega) hn (by decide)).mono ?_
  rintro e w4 ⟨y, rfl, hy0, hy5, hr4, hc4⟩
  obtain ⟨Y, rfl⟩ : ∃ Y : Nat, y = (Y : Int) := ⟨y.toNat, by omega⟩
  have hY : Y ≤ 4 := by omega
  have kr4 := Lib.hid hr4
  have kC4 := Lib.hid (kC3.out.trans hc4)
  have ho4 := Lib.hid ((show IOwn w4 w.heap.size (.slice Ax 4 cx) ds from owns_chgD ho3.out hc4 hRl).cut hY)
  have hcx4 : (Y : Int) ≤ (cx : Int) := by omega
  clear hr4 hc4 hy5
  have hl4 : (ds.take Y).length = Y := by rw [List.length_take]; omega
  generalize ds.take Y = os at ho4 hl4
  have hl4h := Lib.hid hl4
  clear hds hl4 hd1 hc9
  go_wp2_with fail
  refine (pick_any R A n c (p + 1 + 1) B 16 _ kr4.out (by omega) hn (by decide)).mono ?_
  rintro e w5 ⟨z, rfl, hz0, hz16, hr5, hc5⟩
  have kr5 := Lib.hid hr5
  have kC5 := Lib.hid (kC4.out.trans hc5)
  have ho5 := Lib.hid (show IOwn w5 w.heap.size (.slice Ax Y cx) os from owns_chgD ho4.out hc5 hRl)
  have hz5 := kC5.out.size
  clear hr5 hc5
  by_cases hz : z = 0
  · subst hz
    have hN := Lib.hid (show Nums (w5.alloc (.cells #[.int .i64 0, .int .i64 4, .int .i64 (-1)] 3)) w5.heap.size 3 (fun _ => True) from Nums.of (Has.new w5 3 #[.int .i64 0, .int .i64 4, .int .i64 (-1)]) (fun i hi => by
      obtain rfl | rfl | rfl : i = 0 ∨ i = 1 ∨ i = 2 := by omega
      all_goals exact ⟨_, rfl, trivial⟩))
    have hra := Lib.hid (kr5.out.alloc (by omega) (.cells #[.int .i64 0, .int .i64 4, .int .i64 (-1)] 3))
    have hCa := Lib.hid ((Chg.refl w5 R).alloc (.cells #[.int .i64 0, .int .i64 4, .int .i64 (-1)] 3))
    have hRlr : R < w5.heap.size := by omega
    go_wp2_with fail
    refine (num_any R A n c _ B w5.heap.size 3 _ (fun _ => True) _ hra.out (by omega) hn (by omega) (by omega) (by simp) (by omega) hN.out).mono ?_
    rintro e w6 ⟨t, rfl, _, hr6, hc6⟩
    have hC6 := hCa.out.trans hc6
    have kC6 := Lib.hid (kC5.out.trans hC6)
    have ho6 := Lib.hid (show IOwn w6 w.heap.size (.slice Ax Y cx) os from owns_chgD ho5.out hC6 hRl)
    have kr7 := Lib.hid (hr6.alloc (by have := kC6.out.size; omega) (.cells #[.int .i64 t] 3))
    have kC7 := Lib.hid (kC6.out.alloc (.cells #[.int .i64 t] 3))
    have hO7 := Lib.hid (show (w6.alloc (.cells #[.int .i64 t] 3)).ownsRow w.heap.size 3 1 (.slice Ax Y cx) Y (ints os) from by have h9 := ho6.out.alloc (.cells #[.int .i64 t] 3); unfold IOwn at h9; rwa [hl4h.out] at h9)
    have hnw := Lib.hid (new_one w6 (.int .i64 t) 3)
    have hsz7 := Lib.hid kC7.out.size
    clear hr6 hc6 hC6 hN hra hCa
    go_wp2_with (at_builtin; refine wpList_append_lies _ rfl (.tmp 21) (.tmp 25) 22 rfl w.heap.size 3 i0 _ 1 8 Try.underlying22 hi0 hi1 hi2 hi3 rfl (by decide) (.slice Ax Y cx) Y (ints os) rfl (by exact hO7.out) ⟨w6.heap.size, 0, none⟩ 1 1 [.int .i64 t] rfl rfl (by exact hnw.out) (by simp [Value.oneCell']) (by omega) (by unfold maxLen; omega) (by omega) (by exact hsz7.out) (w6.heap.size + 1) (by simp) ?_; intro gr cr2 w8 hown8 hgrow8 hat8 hlt8)
    have hbk : ∀ b, (Value.slice Ax Y cx).ownBlock = some b → w.heap.size ≤ b := fun b hb => (World.ownsRow.lt hO7.out b hb).1
    have hI8 := Lib.hid (show IOwn w8 w.heap.size (.slice (some ⟨gr, 0, none⟩) (Y + 1) cr2) (os ++ [t]) from by
      unfold IOwn
      rw [List.length_append, List.length_singleton, hl4h.out, ints_append]
      exact hown8)
    have hr8 := Lib.hid (kr7.out.grown hgrow8 (fun b hb => ⟨by have := hbk b hb; omega, by have := hbk b hb; omega⟩) (by have := hsz7.out; omega))
    have hC8 := Lib.hid (kC7.out.grown hgrow8 hbk)
    clear hown8 hgrow8 hat8 hbk
    go_wp2_with fail
    go_ret
    exact ⟨_, os ++ [t], _, rfl, hI8.out, by rw [List.length_append, List.length_singleton, hl4h.out]; omega, hr8.out, by omega, hC8.out⟩
  · have g0 : (z == 0) = false := by simpa using hz
    clear hz
    go_wp2_with fail
    go_ret
    exact ⟨_, os, _, rfl, ho5.out, by rw [hl4h.out]; omega, kr5.out, by omega, kC5.out⟩
/-- A drawn list of factors and a list of numbers. -/
def DrLo (w : World) (e : Ending) (w' : World) : Prop :=
  ∃ (v u : Value) (Fs : List Fac) (vs : List Value) (os : List Int), e = .returned (.tuple #[v, u]) ∧ RowsF w' w.heap.size v Fs vs ∧ IOwn w' w.heap.size u os ∧ Fs.length ≤ 6 ∧ os.length ≤ 5 ∧ smallF Fs ∧ Below w.heap.size w w'
theorem DrawEliminate_any (A : Option Addr) (n c : Nat) (w : World) (h : Byt w w.heap.size A n) (hn : n ≤ c) (hc : c ≤ maxLen) :
    Calls Try.prog 39 #[.slice A n c] w (DrLo w) := by
  have hO := Lib.hid (l40Open_any A n c _ h hn hc)
  clear h hc
  go_enter Try.func39, Try.ntmps39
  go_wp2_with fail
  refine (hO.out).mono ?_
  rintro e w1 ⟨rfl, ⟨n', hn', hr1⟩, hb1⟩
  have hz1 := hr1.lt
  have kr1 := Lib.hid hr1
  have kb1 := Lib.hid hb1
  clear hr1 hb1
  go_wp2_with fail
  refine (l8Factors_any w.heap.size A n' c 0 w.heap.size w1 kr1.out (by omega) hn' (by omega)).mono ?_
  rintro e w2 ⟨v, Fs, vs, p', rfl, hR, hl, hbd, hp, hr2, hc2⟩
  have kR := Lib.hid (hR.le (show w.heap.size + 1 ≤ w1.heap.size by omega))
  have kC := Lib.hid hc2
  have kr2 := Lib.hid hr2
  have hz2 := hc2.size
  have kbd := Lib.hid (show smallF Fs from fun F hF => by have := hbd F hF; unfold maxLen; omega)
  clear hR hr2 hc2 hbd
  go_wp2_with fail
  refine (l9Order_any w.heap.size A n' c p' w.heap.size w2 kr2.out (by omega) hn' (by omega)).mono ?_
  rintro e w3 ⟨u, os, p3, rfl, ho, hol, hr3, hp3, hc3⟩
  have kR3 := Lib.hid ((kR.out.chg hc3 (by omega)).le (show w.heap.size ≤ w.heap.size + 1 by omega))
  have kO3 := Lib.hid (show IOwn w3 w.heap.size u os from owns_le ho (by omega))
  have kB := Lib.hid (kb1.out.trans ((kC.out.trans hc3).below (B := w.heap.size) (Nat.le_refl _) (by omega)))
  clear hr3 hc3 ho
  go_wp2_with fail
  go_ret2
  exact ⟨v, u, Fs, vs, os, rfl, kR3.out, kO3.out, hl, hol, kbd.out, kB.out⟩
end Go.Proofs.Ytaipdkfbkcknkaa

namespace Go.Proofs.Ytaipdkfbkcknkaa
set_option maxRecDepth 100000
set_option linter.unusedVariables false
open Go.RowKit
theorem field_str (x y a b c d : Value) (w : World) : (Instr.field 79 (.agg #[x, y, a, b, c, d]) 0).run Try.prog w = .ok (.agg #[x, y]) w := by kernel_rfl
set_option maxHeartbeats 2000000 in
theorem Eliminate_any (A Ad : Option Addr) (n c nd cd : Nat) (Fs : List Fac) (os : List Int) (w : World) (h : FLst w w.heap.size A n Fs) (hn : n ≤ maxLen) (hsm : smallF Fs) (hd : Ils w w.heap.size Ad nd os) (hnd : nd ≤ maxLen) :
    Calls Try.prog 27 #[.slice A n c, .slice Ad nd cd] w (Fbd w (elimTo Fs os) (okElO Fs os)) := by
  have hB0 : Below w.heap.size w (w.alloc (.cells #[.slice none 0 0, .slice none 0 0] 36)) := (Below.refl _ _).alloc (Nat.le_refl _) _
  have hr := Lib.hid (Has.new w 36 #[.slice none 0 0, .slice none 0 0])
  have hI := Lib.hid ((h.below hB0).more hB0.size)
  have hD := Lib.hid ((hd.below hB0).more hB0.size)
  have hl := h.1
  have hld := hd.1
  have cK := Lib.hid (fun wx hx => factorsOk_any A n c Fs wx hx hn hsm)
  have cO := Lib.hid (fun wx hx => OrderOk_any Ad nd cd os wx hx hnd)
  have hB := Lib.hid hB0
  clear h hn hsm hd hB0
  cases hk : listOk Fs
  · have hT : elimTo Fs os = ⟨[], []⟩ := by unfold elimTo okElO; rw [hk]; rfl
    have hO : okElO Fs os = false := by unfold okElO; rw [hk]; rfl
    rw [hT, hO]
    rw [hk] at cK
    clear hk hT hO
    go_enter Try.func27, Try.ntmps27
    go_wp2_with fail
    generalize w.alloc (.cells #[.slice none 0 0, .slice none 0 0] 36) = w0 at hI hD hr hB ⊢
    refine (cK.out _ hI.out).mono ?_
    rintro e w1 ⟨rfl, hb⟩
    have hr1 := hr.out.kept hb
    have cr := hr1.cell
    have fr := hr1.frozen
    have hBn := Lib.hid (((hB.out.trans (hb.mono hB.out.size)).setCell (p := ⟨w.heap.size, 0, none⟩) (Nat.le_refl _) (.slice none 0 0)).setCell (p := ⟨w.heap.size, 1, none⟩) (Nat.le_refl _) (.slice none 0 0))
    clear hb
    go_wp2_with fail
    refine bodyPost_ret (v := .tuple #[.agg #[.slice none 0 0, .slice none 0 0], .bool false]) (by simp [results, Try.results27, go_sem, cr]) rfl ⟨_, _, rfl, FcV.none_ _ _, ?_⟩
    exact hBn.out
  · rw [hk] at cK
    cases ho : orderOk os
    · have hT : elimTo Fs os = ⟨[], []⟩ := by unfold elimTo okElO; rw [ho, hk]; rfl
      have hO : okElO Fs os = false := by unfold okElO; rw [ho, hk]; rfl
      rw [hT, hO]
      rw [ho] at cO
      clear hk ho hT hO
      go_enter Try.func27, Try.ntmps27
      go_wp2_with fail
      generalize w.alloc (.cells #[.slice none 0 0, .slice none 0 0] 36) = w0 at hI hD hr hB ⊢
      refine (cK.out _ hI.out).mono ?_
      rintro e w1 ⟨rfl, hb⟩
      have hr1 := hr.out.kept hb
      have cr := hr1.cell
      have fr := hr1.frozen
      have hBn := Lib.hid (((hB.out.trans (hb.mono hB.out.size)).setCell (p := ⟨w.heap.size, 0, none⟩) (Nat.le_refl _) (.slice none 0 0)).setCell (p := ⟨w.heap.size, 1, none⟩) (Nat.le_refl _) (.slice none 0 0))
      have hD1 := Lib.hid ((hD.out.below hb).more hb.size)
      clear hb
      go_wp2_with fail
      refine (cO.out _ hD1.out).mono ?_
      rintro e w' ⟨rfl, rfl⟩
      go_wp2_with fail
      refine bodyPost_ret (v := .tuple #[.agg #[.slice none 0 0, .slice none 0 0], .bool false]) (by simp [results, Try.results27, go_sem, cr]) rfl ⟨_, _, rfl, FcV.none_ _ _, ?_⟩
      exact hBn.out
    · obtain ⟨h8, hf, hfine⟩ := list_fine hk
      obtain ⟨hom, hon, hoi, hol⟩ := oOk_mem ho
      have hT : elimTo Fs os = facBy_ (lefO os) (prodAt (elimA Fs os)) := by unfold elimTo okElO; rw [ho, hk]; rfl
      have hO : okElO Fs os = true := by unfold okElO; rw [ho, hk]; rfl
      have hE : sumT (elimA Fs os) (lefO os) (lefO os) = facBy_ (lefO os) (prodAt (elimA Fs os)) := by
        obtain ⟨L, hL⟩ := fin16 (lefO_bd os)
        rw [hL]
        exact sumT_all _ L
      rw [hT, hO]
      rw [← hE]
      rw [ho] at cO
      have cS := Lib.hid (fun wx hx => stridedOf_any A n c Fs wx hx (by omega) hf)
      have hAll := Lib.hid (fun k (hk : k ≤ os.length) => elimA_all hfine hoi k hk)
      have hPw := Lib.hid (fun (k : Nat) (hk : k ≤ 4) => pow_bd h8 hf hk)
      have hoi' := Lib.hid hoi
      have hnd4 : nd ≤ 4 := by omega
      have hldh := Lib.hid hld
      have hlh := Lib.hid (show Fs.length ≤ 8 from h8)
      clear hk ho hT hO hE hf hom hon hoi hol hfine h8 hld hl
      go_enter Try.func27, Try.ntmps27
      go_wp2_with fail
      generalize w.alloc (.cells #[.slice none 0 0, .slice none 0 0] 36) = w0 at hI hD hr hB ⊢
      refine (cK.out _ hI.out).mono ?_
      rintro e w1 ⟨rfl, hb⟩
      have hr1 := Lib.hid (hr.out.kept hb)
      have hB1 := Lib.hid (hB.out.trans (hb.mono hB.out.size))
      have hI1 := Lib.hid ((hI.out.below hb).more hb.size)
      have hD1 := Lib.hid ((hD.out.below hb).more hb.size)
      clear hb
      go_wp2_with fail
      refine (cO.out _ hD1.out).mono ?_
      rintro e w' ⟨rfl, rfl⟩
      go_wp2_with fail
      refine (cS.out _ hI1.out).mono ?_
      rintro e w2 ⟨v2, us2, rfl, hR2, hA2, hb2⟩
      obtain ⟨A2s, c2s, rfl, _, _⟩ := hR2.form
      have kR2 := Lib.hid hR2
      have kA2 := Lib.hid hA2
      have kb2 := Lib.hid hb2
      clear hR2 hA2 hb2
      go_wp2_with fail
      go_loopg [6, 7, 23] nd (fun gq r l x wr => ∃ (k : Nat) (A' : Option Addr) (n' c' ob : Nat) (us : List Value), k ≤ nd ∧ gq = nd - k ∧ x = .int .i64 k ∧ l = .int .i64 (lefO (os.take k)) ∧ r = .slice A' n' c' ∧ (elimA Fs (os.take k)).length = n' ∧ RowsS wr w1.heap.size ob (.slice A' n' c') (elimA Fs (os.take k)) us ∧ Apart us ∧ Below w1.heap.size w1 wr)
      case atStart => exact ⟨0, _, _, _, _, us2, Nat.zero_le _, rfl, rfl, rfl, rfl, rfl, kR2.out, kA2.out, kb2.out⟩
      case round =>
        obtain ⟨k, A', n', c', ob, us, hkn, hgn, rfl, rfl, rfl, hn', hR, hA, hB⟩ := hrel
        have hgk : gk = nd - k := hgn
        have hRh := Lib.hid hR
        have hAh := Lib.hid hA
        have hBh := Lib.hid hB
        have hnh := Lib.hid hn'
        have hlb := lefO_bd (os.take k)
        obtain ⟨a1, a2, a3, _⟩ := hAll.out k (by have := hldh.out; omega)
        have hpk := hPw.out k (by omega)
        have hn20 : n' ≤ 20 := by have := hlh.out; omega
        have hpK : pb (elimA Fs (os.take k)) ≤ 10000000000 := by omega
        clear hgn hR hA hn' hpk a2 a3
        by_cases hlt : k < nd
        · obtain ⟨g, off, d, rfl, hg, hd, cd0⟩ := (hD1.out.below hB).at_ hlt
          have hdb := hoi'.out d (List.mem_of_getElem? hd)
          obtain ⟨V, rfl, hVt⟩ := nat_three hdb
          clear hVt
          have hk0 : (0 : Int) ≤ (k : Int) := by omega
          have hk1 : (k : Int) < (nd : Int) := by omega
          have hnx := Lib.hid (elimA_take (Fs := Fs) hd)
          have hlx := Lib.hid (lefO_take hd)
          have cE := Lib.hid (eliminated_any A' n' c' w1.heap.size ob (elimA Fs (os.take k)) us V wr hRh.out hnh.out hn20 a1 hpK hAh.out hBh.out.size)
          rw [← hnx.out] at cE
          have hdf := bits_diff hlb (bitN_le (V.val : Int))
          rw [← hlx.out] at hdf
          have cB := Lib.hid (fun wx => bitOf_any (V.val : Int) wx)
          generalize lefO (os.take k) = L0 at *
          generalize hL1 : lefO (os.take (k + 1)) = L1 at *
          have hL1h := Lib.hid hL1
          generalize hEs : elimA Fs (os.take (k + 1)) = Es at *
          have hEsh := Lib.hid hEs
          clear hd hdb a1 hnx hlx hB hEs hL1
          go_wp2_with fail
          refine cE.out.mono ?_
          rintro e w3 ⟨v3, us3, rfl, hR3, hA3, hb3⟩
          obtain ⟨A3, c3, rfl, _, _⟩ := hR3.form
          have kR3 := Lib.hid hR3
          have kA3 := Lib.hid hA3
          have hB3 := Lib.hid (hBh.out.trans (hb3.mono hBh.out.size))
          clear hR3 hA3 hb3
          go_wp2_with fail
          refine (cB.out _).mono ?_
          rintro e w' ⟨rfl, rfl⟩
          go_wp2_with fail
          go_roundg (nd - (k + 1))
          case measure => omega
          case rel => exact ⟨k + 1, _, _, _, _, us3, by omega, rfl, by go_num, by rw [hL1h.out], rfl, by rw [hEsh.out], by rw [hEsh.out]; exact kR3.out, kA3.out, hB3.out⟩
        · obtain rfl : k = nd := by omega
          have htk : os.take k = os := List.take_of_length_le (by have := hldh.out; omega)
          rw [htk] at hRh hnh hlb a1 hpK ⊢
          have cP := Lib.hid (productTo_any A' n' c' w1.heap.size ob (elimA Fs os) us (lefO os) (lefO os) wr hRh.out hnh.out hn20 a1 hpK hlb hlb)
          generalize sumT (elimA Fs os) (lefO os) (lefO os) = E at *
          generalize lefO os = L0 at *
          have hr4 := Lib.hid (hr1.out.kept hB)
          clear htk a1 hB
          go_wp2_with fail
          refine cP.out.mono ?_
          rintro e w3 ⟨v1, v2, rfl, hV, hb3⟩
          obtain ⟨X1, x1, rfl, _, _⟩ := hV.1.form
          obtain ⟨X2, x2, rfl, _, _⟩ := hV.2.1.form
          have hr5 := hr4.out.kept hb3
          have cr := hr5.cell
          have fr := hr5.frozen
          have hzz := hB1.out.size
          have hBn := Lib.hid (((hB1.out.trans ((hBh.out.trans (hb3.mono hBh.out.size)).mono hB1.out.size)).setCell (p := ⟨w.heap.size, 0, none⟩) (Nat.le_refl _) (.slice X1 E.vs.length x1)).setCell (p := ⟨w.heap.size, 1, none⟩) (Nat.le_refl _) (.slice X2 E.ns.length x2))
          have hVn := Lib.hid ((hV.le (Nat.le_trans hzz hBh.out.size)).put2 hr5 (.slice X1 E.vs.length x1) (.slice X2 E.ns.length x2))
          unfold strA
          have hfi : ∀ wx : World, (Instr.field 79 (.agg #[.slice X1 E.vs.length x1, .slice X2 E.ns.length x2, .int .i64 (strL (setOf E.vs) 0), .int .i64 (strL (setOf E.vs) 1), .int .i64 (strL (setOf E.vs) 2), .int .i64 (strL (setOf E.vs) 3)]) 0).run Try.prog wx = .ok (.agg #[.slice X1 E.vs.length x1, .slice X2 E.ns.length x2]) wx := fun wx => field_str _ _ _ _ _ _ wx
          clear hV hb3
          go_wp2_with fail
          refine bodyPost_ret (v := .tuple #[.agg #[.slice X1 E.vs.length x1, .slice X2 E.ns.length x2], .bool true]) (by simp [results, Try.results27, go_sem, cr]) rfl ⟨_, _, rfl, ?_, ?_⟩
          · exact hVn.out
          · exact hBn.out
end Go.Proofs.Ytaipdkfbkcknkaa
