/- Diagrams: the model's l11Sums, CellSums. -/
import Derived.Test.YtghkpmafocacoaaOr
import Derived.Test.YtghkpmafocacoaaOq
namespace Go.Proofs.Ytghkpmafocacoaa
set_option maxRecDepth 100000
set_option linter.unusedVariables false
open Go.RowKit

theorem p3_pow : ∀ k : Nat, p3 k = 3 ^ k
  | 0 => rfl
  | k + 1 => by rw [p3, p3_pow k, Int.pow_succ]
theorem map_next (f : Nat → Int) (k : Nat) : (List.range (k + 1)).map f = (List.range k).map f ++ [f k] := by rw [List.range_succ, List.map_append]; rfl
set_option maxHeartbeats 4000000 in
theorem l11Sums_any (A : Option Addr) (n c : Nat) (ds : List Ce) (w : World) (h : CLst w w.heap.size A n ds) (hn : n ≤ 121) (hok : allOk ds ds.length = true) :
    Calls Try.prog 78 #[.slice A n c] w fun e w' => ∃ v, e = .returned v ∧ IOwn w' w.heap.size v ((List.range n).map (csum ds)) ∧ Below w.heap.size w w' := by
  have hb0 : Below w.heap.size w (w.alloc (.cells #[] 3)) := (Below.refl _ _).alloc (Nat.le_refl _) _
  have hO0 := Lib.hid (IOwn.of_has (ds := []) (n := 0) (base := w.heap.size) (Has.new w 3 #[]) rfl rfl (Nat.le_refl _) (by decide))
  have hB0 := Lib.hid hb0
  have hH := Lib.hid h
  have hLn := Lib.hid h.1
  have hK := Lib.hid hok
  clear h hb0 hok
  obtain ⟨i0, hi0, hz0, hz1', hz2'⟩ := info_parts info_int
  go_enter Try.func78, Try.ntmps78
  go_wp2_with fail
  generalize hgo : w.heap.size = go at hO0 ⊢
  have hgoh := Lib.hid hgo
  clear hgo
  go_loopg [3, 4] n (fun gn v i wr => ∃ k : Nat, k ≤ n ∧ gn = n - k ∧ i = .int .i64 k ∧ IOwn wr go v ((List.range k).map (csum ds)) ∧ Below w.heap.size w wr)
  case atStart => exact ⟨0, Nat.zero_le _, rfl, rfl, hO0.out, hB0.out⟩
  case round =>
    obtain ⟨k, hk, hgn, rfl, hO, hB⟩ := hrel
    have hgk : gk = n - k := hgn
    clear hgn
    obtain ⟨Ao, co, hvo, hco1, hco2⟩ := hO.form
    have hlk : ((List.range k).map (csum ds)).length = k := by simp
    rw [hlk] at hvo
    subst hvo
    have hO' := Lib.hid hO
    have hB' := Lib.hid hB
    have hBz := hB.size
    clear hO hB
    by_cases hlt : k < n
    · obtain ⟨g, off, rfl, hg, hat⟩ := (hH.out.below hB'.out).gt_ hlt
      obtain ⟨c0, c1, c2, c3, c4⟩ := hat.open_
      have hkl : k < ds.length := by rw [hLn.out]; exact hlt
      have hSn := Lib.hid (map_next (csum ds) k)
      have hk0 : (0 : Int) ≤ (k : Int) := by omega
      have hk1 : (k : Int) < (n : Int) := by omega
      have hgor : go ≤ wr.heap.size := by rw [← hgoh.out]; exact hBz
      by_cases hv : (gt ds k).v = -1
      · have hE := Lib.hid (csum_leaf (ds := ds) hv)
        have hbW : Below wr.heap.size wr (wr.alloc (.cells #[.int .i64 (gt ds k).v, .int .i64 (gt ds k).n, .int .i64 (gt ds k).a, .int .i64 (gt ds k).b, .int .i64 (gt ds k).c] 47)) := (Below.refl _ _).alloc (Nat.le_refl _) _
        have hW := Lib.hid (Has.new wr 47 #[.int .i64 (gt ds k).v, .int .i64 (gt ds k).n, .int .i64 (gt ds k).a, .int .i64 (gt ds k).b, .int .i64 (gt ds k).c])
        have hO2 := Lib.hid (hO'.out.below hbW)
        have hB2 := Lib.hid (hB'.out.trans (hbW.mono hBz))
        have hx : (gt ds k).v = -1 := hv
        rw [hE.out] at hSn
        clear hbW hat hE
        generalize gt ds k = s at *
        obtain ⟨sv, x, sa, sb, sc⟩ := s
        dsimp only at *
        subst hx
        clear hv
        go_wp2_with fail
        clear c0 c1 c2 c3 c4
        generalize wr.alloc (.cells #[.int .i64 (-1), .int .i64 x, .int .i64 sa, .int .i64 sb, .int .i64 sc] 47) = W0 at hW hO2 hB2 ⊢
        have hz0W := hB2.out.size
        have hgo0 : go ≤ W0.heap.size := by rw [← hgoh.out]; exact hz0W
        generalize wr.heap.size = gc at hW ⊢
        go_loopw [6, 7] (fun p i wq => p = .int .i64 x ∧ i = .int .i64 0 ∧ wq = W0) (fun _ _ _ => 0)
        case atStart => exact ⟨rfl, rfl, rfl⟩
        case round =>
          obtain ⟨rfl, rfl, hw0⟩ := hrel
          obtain rfl := hw0.symm
          have hxc := hW.out.cell
          have hO3 := Lib.hid (hO2.out.alloc (.cells #[.int .i64 x] 3))
          have hnw := Lib.hid (new_one W0 (.int .i64 x) 3)
          have hB3 := Lib.hid (hB2.out.alloc hz0W (.cells #[.int .i64 x] 3))
          go_wp2_with (at_builtin; refine wpList_append_lies _ rfl (.tmp 52) (.tmp 54) 31 rfl go 3 i0 _ 1 8 Try.underlying31 hi0 hz0 hz1' hz2' rfl (by decide) (.slice Ao k co) k (ints ((List.range k).map (csum ds))) rfl (by have := hO3.out; unfold IOwn at this; rwa [hlk] at this) ⟨W0.heap.size, 0, none⟩ 1 1 [.int .i64 x] rfl rfl (by exact hnw.out) (by simp [Value.oneCell']) (by omega) (by unfold maxLen; omega) (by omega) (by simp; omega) (W0.heap.size + 1) (by simp) ?_; intro gr cr2 w8 hown8 hgrow8 hat8 hlt8)
          have hF := Lib.hid (IOwn.append_ (news := [x]) hO3.out (by rw [hlk]; exact hown8) hgrow8 (show Below go w (W0.alloc (.cells #[.int .i64 x] 3)) from by rw [← hgoh.out]; exact hB3.out) (by simp; omega))
          clear hown8 hgrow8 hat8
          go_wp2_with fail
          go_roundg (n - (k + 1))
          case measure => omega
          case rel => exact ⟨k + 1, by omega, rfl, by go_num, by rw [hSn.out]; exact hF.out.1, by have := hF.out.2; rw [← hgoh.out] at this; exact this⟩
      · obtain ⟨⟨hv0, hv3⟩, hkid⟩ := up_of hK.out k hkl hv
        have hTb := tmS_bd hK.out hkl hv
        have hEq := Lib.hid (csum_step (up_of hK.out) hkl hv)
        have hn0 := (cOk_var (allOk_at hK.out hkl) hv).2.2.1
        obtain ⟨vn, hvn⟩ : ∃ vn : Nat, (gt ds k).v = vn := ⟨_, (Int.toNat_of_nonneg hv0).symm⟩
        obtain ⟨ja, hja⟩ : ∃ j : Nat, (gt ds k).a = j := ⟨_, (Int.toNat_of_nonneg (hkid 0).1).symm⟩
        obtain ⟨jb, hjb⟩ : ∃ j : Nat, (gt ds k).b = j := ⟨_, (Int.toNat_of_nonneg (hkid 1).1).symm⟩
        obtain ⟨jc, hjc⟩ : ∃ j : Nat, (gt ds k).c = j := ⟨_, (Int.toNat_of_nonneg (hkid 2).1).symm⟩
        have hKa : 0 ≤ (gt ds k).a ∧ (gt ds k).a < k ∧ (gt ds k).v < (gt ds (gt ds k).a.toNat).lev := hkid 0
        have hKb : 0 ≤ (gt ds k).b ∧ (gt ds k).b < k ∧ (gt ds k).v < (gt ds (gt ds k).b.toNat).lev := hkid 1
        have hKc : 0 ≤ (gt ds k).c ∧ (gt ds k).c < k ∧ (gt ds k).v < (gt ds (gt ds k).c.toNat).lev := hkid 2
        have hTa : 0 ≤ tmS ds (gt ds k).v (gt ds k).a ∧ tmS ds (gt ds k).v (gt ds k).a ≤ 27000000000 := hTb 0
        have hTbb : 0 ≤ tmS ds (gt ds k).v (gt ds k).b ∧ tmS ds (gt ds k).v (gt ds k).b ≤ 27000000000 := hTb 1
        have hTc : 0 ≤ tmS ds (gt ds k).v (gt ds k).c ∧ tmS ds (gt ds k).v (gt ds k).c ≤ 27000000000 := hTb 2
        have hE2 : csum ds k = 0 + tmS ds (gt ds k).v (gt ds k).a + tmS ds (gt ds k).v (gt ds k).b + tmS ds (gt ds k).v (gt ds k).c := by rw [hEq.out, Int.zero_add]; rfl
        rw [hvn] at hKa hKb hKc hTa hTbb hTc hE2 c0
        rw [hja] at hKa hTa hE2 c2
        rw [hjb] at hKb hTbb hE2 c3
        rw [hjc] at hKc hTc hE2 c4
        rw [hn0] at c1
        rw [Int.toNat_natCast] at hKa hKb hKc
        rw [hE2] at hSn
        have hbW : Below wr.heap.size wr (wr.alloc (.cells #[.int .i64 (vn : Int), .int .i64 0, .int .i64 (ja : Int), .int .i64 (jb : Int), .int .i64 (jc : Int)] 47)) := (Below.refl _ _).alloc (Nat.le_refl _) _
        have hW := Lib.hid (Has.new wr 47 #[.int .i64 (vn : Int), .int .i64 0, .int .i64 (ja : Int), .int .i64 (jb : Int), .int .i64 (jc : Int)])
        have hO2 := Lib.hid (hO'.out.below hbW)
        have hB2 := Lib.hid (hB'.out.trans (hbW.mono hBz))
        clear hbW hat hEq hkid hTb hv0 hv3 hv hvn hja hjb hjc hn0 hE2
        go_wp2_with fail
        clear c0 c1 c2 c3 c4
        generalize wr.alloc (.cells #[.int .i64 (vn : Int), .int .i64 0, .int .i64 (ja : Int), .int .i64 (jb : Int), .int .i64 (jc : Int)] 47) = W0 at hW hO2 hB2 ⊢
        have hz0W := hB2.out.size
        have hgo0 : go ≤ W0.heap.size := by rw [← hgoh.out]; exact hz0W
        generalize wr.heap.size = gc at hW ⊢
        have hdv : decide ((0 : Int) ≤ (vn : Int)) = true := decide_eq_true (by omega)
        go_loopw [6, 7] (fun pv i wq => ∃ p : Int, pv = .int .i64 p ∧ Below W0.heap.size W0 wq ∧ ((i = .int .i64 0 ∧ p = 0) ∨ (i = .int .i64 1 ∧ p = 0 + tmS ds vn ja) ∨ (i = .int .i64 2 ∧ p = 0 + tmS ds vn ja + tmS ds vn jb) ∨ (i = .int .i64 3 ∧ p = 0 + tmS ds vn ja + tmS ds vn jb + tmS ds vn jc))) (fun _ i _ => 3 - (intOf i).toNat)
        case atStart => exact ⟨0, rfl, Below.refl _ _, .inl ⟨rfl, rfl⟩⟩
        case round =>
          obtain ⟨p, rfl, hbq, hrel⟩ := hrel
          obtain ⟨wq, rfl⟩ : ∃ x : World, x = wr := ⟨_, rfl⟩
          have hzq := hbq.size
          have hBq := Lib.hid hbq
          have hWq := Lib.hid (hW.out.kept hbq)
          have hOq := Lib.hid (hO2.out.below hbq)
          have hBB := Lib.hid (hB2.out.trans (hbq.mono hz0W))
          clear hbq
          rcases hrel with ⟨rfl, hp⟩ | ⟨rfl, hp⟩ | ⟨rfl, hp⟩ | ⟨rfl, hp⟩
          · have hp0 : 0 ≤ p ∧ p ≤ 100000000000 := by omega
            have hP := Lib.hid hp
            clear hp
            have hT' : tmS ds vn ja = csum ds ((ja : Int)).toNat * 3 ^ ((gt ds ((ja : Int)).toNat).lev - vn - 1).toNat := rfl
            obtain ⟨hj0, hj1, hj2⟩ := hKa
            generalize ja = j at *
            have hjk : j < k := by omega
            have hjn : j < n := by omega
            have hlb := lev_bd (up_of hK.out) (i := j) (by rw [hLn.out]; omega)
            have hcb := csum_bd hK.out (i := j) (by rw [hLn.out]; omega)
            have hge : -1 ≤ (gt ds j).v := allOk_ge hK.out (by rw [hLn.out]; omega)
            rw [Int.toNat_natCast] at hT'
            obtain ⟨ln, hln⟩ : ∃ ln : Nat, (gt ds j).lev = ln := ⟨_, (Int.toNat_of_nonneg hlb.1).symm⟩
            obtain ⟨g', off', eA, hg', hat⟩ := (hH.out.below hBB.out).gt_ (k := j) (by omega)
            injection eA with eA
            injection eA with eA1 eA2 _
            subst eA1 eA2
            have cL := Lib.hid (fun wx => l11Level_any (gt ds j) hge wx)
            rw [hln] at cL hT' hj2
            obtain ⟨ex, hex⟩ : ∃ ex : Nat, ex = ln - (vn + 1) := ⟨_, rfl⟩
            have hex3 : ex ≤ 3 := by omega
            have hsub1 : IntKind.i64.wrap ((ln : Int) - (vn : Int)) = ((ex : Int) + 1) := by rw [IntKind.wrap_i64]; omega
            have hsub2 : IntKind.i64.wrap ((ex : Int)) = (ex : Int) := by rw [IntKind.wrap_i64]; omega
            rw [show ((ln : Int) - vn - 1).toNat = ex by omega] at hT'
            have cP := Lib.hid (fun wx => l1Power_any ex hex3 wx)
            rw [p3_pow] at cP
            have hlst := IOwn.lst hOq.out
            obtain ⟨go2, og, eO, hgo2, hcs⟩ := hlst.2 (by omega)
            have ej := hcs j (csum ds j) (by rw [List.getElem?_map, List.getElem?_range hjk]; rfl)
            have htb : 0 ≤ tmS ds vn j ∧ tmS ds vn j ≤ 27000000000 := hTa
            rw [hT'] at htb
            have hP2 := Lib.hid (show p + csum ds j * 3 ^ ex = 0 + tmS ds vn j by rw [hP.out, hT'])
            generalize csum ds j = cj at *
            generalize gt ds j = d at *
            obtain ⟨c0, c1, c2, c3, c4⟩ := hat.open_
            have hgz : g < wq.heap.size := by omega
            have hwm : IntKind.i64.wrap (cj * 3 ^ ex) = cj * 3 ^ ex := by generalize cj * 3 ^ ex = y at htb; rw [IntKind.wrap_i64]; omega
            have hwa : IntKind.i64.wrap (p + cj * 3 ^ ex) = p + cj * 3 ^ ex := by generalize cj * 3 ^ ex = y at htb; rw [IntKind.wrap_i64]; omega
            have hOk := Lib.hid (fun (wx : World) (hx : Below wq.heap.size wq wx) => (show Below wq.heap.size wq wx ∧ wx.cell? ⟨go2, og + j, none⟩ = some (.int .i64 cj) ∧ wx.cell? ⟨gc, 0, none⟩ = some (.int .i64 (vn : Int)) ∧ wx.cell? ⟨g, off + j * 5, none⟩ = some (.int .i64 d.v) ∧ wx.cell? ⟨g, off + j * 5 + 1, none⟩ = some (.int .i64 d.n) ∧ wx.cell? ⟨g, off + j * 5 + 2, none⟩ = some (.int .i64 d.a) ∧ wx.cell? ⟨g, off + j * 5 + 3, none⟩ = some (.int .i64 d.b) ∧ wx.cell? ⟨g, off + j * 5 + 4, none⟩ = some (.int .i64 d.c) from ⟨hx, (hx.cell (p := ⟨go2, og + j, none⟩) (by exact hgo2)).trans ej, (hWq.out.kept hx).cell 0, (hx.cell (p := ⟨g, off + j * 5, none⟩) (by exact hgz)).trans c0, (hx.cell (p := ⟨g, off + j * 5 + 1, none⟩) (by exact hgz)).trans c1, (hx.cell (p := ⟨g, off + j * 5 + 2, none⟩) (by exact hgz)).trans c2, (hx.cell (p := ⟨g, off + j * 5 + 3, none⟩) (by exact hgz)).trans c3, (hx.cell (p := ⟨g, off + j * 5 + 4, none⟩) (by exact hgz)).trans c4⟩))
            have hxc := hWq.out.cell
            have hq0 : (0 : Int) ≤ (j : Int) := by omega
            have hq1 : (j : Int) < (n : Int) := by omega
            have hq2 : (j : Int) < (k : Int) := by omega
            subst eO
            clear hat hT' hlb hcb c0 c1 c2 c3 c4 hj0 hj1 hj2 hln hlst hcs ej hge hex hTa hTbb hTc
            go_wp2_with fail
            clear hxc
            obtain ⟨_, ej, e0, f0, f1, f2, f3, f4⟩ := hOk.out wq (Below.refl _ _)
            go_region_held3 (fun wx => Below wq.heap.size wq wx ∧ wx.cell? ⟨go2, og + j, none⟩ = some (.int .i64 cj) ∧ wx.cell? ⟨gc, 0, none⟩ = some (.int .i64 (vn : Int)) ∧ wx.cell? ⟨g, off + j * 5, none⟩ = some (.int .i64 d.v) ∧ wx.cell? ⟨g, off + j * 5 + 1, none⟩ = some (.int .i64 d.n) ∧ wx.cell? ⟨g, off + j * 5 + 2, none⟩ = some (.int .i64 d.a) ∧ wx.cell? ⟨g, off + j * 5 + 3, none⟩ = some (.int .i64 d.b) ∧ wx.cell? ⟨g, off + j * 5 + 4, none⟩ = some (.int .i64 d.c)) (first | exact hOk.out _ ((Below.refl _ _).drew) | exact hOk.out _ (bt6 (by assumption) hbq) | exact hOk.out _ (bs6 (by assumption)) | exact hOk.out _ (bd6 (by assumption)) | go_keep) (first | (go_at_call 67; refine (cL.out _).mono ?_; rintro e q ⟨rfl, hbq⟩) | (go_at_call 79; refine (cP.out _).mono ?_; rintro e q ⟨rfl, rfl⟩))
            rename_i hHeld
            have hB6 := Lib.hid (hBq.out.trans (hHeld.1.mono hzq))
            clear hHeld hOk cL cP ej e0 f0 f1 f2 f3 f4
            go_wp2_with fail
            exact ⟨⟨_, rfl, hB6.out, .inr (.inl ⟨rfl, hP2.out⟩)⟩, by simp [intOf]⟩
          · have hp0 : 0 ≤ p ∧ p ≤ 100000000000 := by omega
            have hP := Lib.hid hp
            clear hp
            have hT' : tmS ds vn jb = csum ds ((jb : Int)).toNat * 3 ^ ((gt ds ((jb : Int)).toNat).lev - vn - 1).toNat := rfl
            obtain ⟨hj0, hj1, hj2⟩ := hKb
            generalize jb = j at *
            have hjk : j < k := by omega
            have hjn : j < n := by omega
            have hlb := lev_bd (up_of hK.out) (i := j) (by rw [hLn.out]; omega)
            have hcb := csum_bd hK.out (i := j) (by rw [hLn.out]; omega)
            have hge : -1 ≤ (gt ds j).v := allOk_ge hK.out (by rw [hLn.out]; omega)
            rw [Int.toNat_natCast] at hT'
            obtain ⟨ln, hln⟩ : ∃ ln : Nat, (gt ds j).lev = ln := ⟨_, (Int.toNat_of_nonneg hlb.1).symm⟩
            obtain ⟨g', off', eA, hg', hat⟩ := (hH.out.below hBB.out).gt_ (k := j) (by omega)
            injection eA with eA
            injection eA with eA1 eA2 _
            subst eA1 eA2
            have cL := Lib.hid (fun wx => l11Level_any (gt ds j) hge wx)
            rw [hln] at cL hT' hj2
            obtain ⟨ex, hex⟩ : ∃ ex : Nat, ex = ln - (vn + 1) := ⟨_, rfl⟩
            have hex3 : ex ≤ 3 := by omega
            have hsub1 : IntKind.i64.wrap ((ln : Int) - (vn : Int)) = ((ex : Int) + 1) := by rw [IntKind.wrap_i64]; omega
            have hsub2 : IntKind.i64.wrap ((ex : Int)) = (ex : Int) := by rw [IntKind.wrap_i64]; omega
            rw [show ((ln : Int) - vn - 1).toNat = ex by omega] at hT'
            have cP := Lib.hid (fun wx => l1Power_any ex hex3 wx)
            rw [p3_pow] at cP
            have hlst := IOwn.lst hOq.out
            obtain ⟨go2, og, eO, hgo2, hcs⟩ := hlst.2 (by omega)
            have ej := hcs j (csum ds j) (by rw [List.getElem?_map, List.getElem?_range hjk]; rfl)
            have htb : 0 ≤ tmS ds vn j ∧ tmS ds vn j ≤ 27000000000 := hTbb
            rw [hT'] at htb
            have hP2 := Lib.hid (show p + csum ds j * 3 ^ ex = 0 + tmS ds vn ja + tmS ds vn j by rw [hP.out, hT'])
            generalize csum ds j = cj at *
            generalize gt ds j = d at *
            obtain ⟨c0, c1, c2, c3, c4⟩ := hat.open_
            have hgz : g < wq.heap.size := by omega
            have hwm : IntKind.i64.wrap (cj * 3 ^ ex) = cj * 3 ^ ex := by generalize cj * 3 ^ ex = y at htb; rw [IntKind.wrap_i64]; omega
            have hwa : IntKind.i64.wrap (p + cj * 3 ^ ex) = p + cj * 3 ^ ex := by generalize cj * 3 ^ ex = y at htb; rw [IntKind.wrap_i64]; omega
            have hOk := Lib.hid (fun (wx : World) (hx : Below wq.heap.size wq wx) => (show Below wq.heap.size wq wx ∧ wx.cell? ⟨go2, og + j, none⟩ = some (.int .i64 cj) ∧ wx.cell? ⟨gc, 0, none⟩ = some (.int .i64 (vn : Int)) ∧ wx.cell? ⟨g, off + j * 5, none⟩ = some (.int .i64 d.v) ∧ wx.cell? ⟨g, off + j * 5 + 1, none⟩ = some (.int .i64 d.n) ∧ wx.cell? ⟨g, off + j * 5 + 2, none⟩ = some (.int .i64 d.a) ∧ wx.cell? ⟨g, off + j * 5 + 3, none⟩ = some (.int .i64 d.b) ∧ wx.cell? ⟨g, off + j * 5 + 4, none⟩ = some (.int .i64 d.c) from ⟨hx, (hx.cell (p := ⟨go2, og + j, none⟩) (by exact hgo2)).trans ej, (hWq.out.kept hx).cell 0, (hx.cell (p := ⟨g, off + j * 5, none⟩) (by exact hgz)).trans c0, (hx.cell (p := ⟨g, off + j * 5 + 1, none⟩) (by exact hgz)).trans c1, (hx.cell (p := ⟨g, off + j * 5 + 2, none⟩) (by exact hgz)).trans c2, (hx.cell (p := ⟨g, off + j * 5 + 3, none⟩) (by exact hgz)).trans c3, (hx.cell (p := ⟨g, off + j * 5 + 4, none⟩) (by exact hgz)).trans c4⟩))
            have hxc := hWq.out.cell
            have hq0 : (0 : Int) ≤ (j : Int) := by omega
            have hq1 : (j : Int) < (n : Int) := by omega
            have hq2 : (j : Int) < (k : Int) := by omega
            subst eO
            clear hat hT' hlb hcb c0 c1 c2 c3 c4 hj0 hj1 hj2 hln hlst hcs ej hge hex hTa hTbb hTc
            go_wp2_with fail
            clear hxc
            obtain ⟨_, ej, e0, f0, f1, f2, f3, f4⟩ := hOk.out wq (Below.refl _ _)
            go_region_held3 (fun wx => Below wq.heap.size wq wx ∧ wx.cell? ⟨go2, og + j, none⟩ = some (.int .i64 cj) ∧ wx.cell? ⟨gc, 0, none⟩ = some (.int .i64 (vn : Int)) ∧ wx.cell? ⟨g, off + j * 5, none⟩ = some (.int .i64 d.v) ∧ wx.cell? ⟨g, off + j * 5 + 1, none⟩ = some (.int .i64 d.n) ∧ wx.cell? ⟨g, off + j * 5 + 2, none⟩ = some (.int .i64 d.a) ∧ wx.cell? ⟨g, off + j * 5 + 3, none⟩ = some (.int .i64 d.b) ∧ wx.cell? ⟨g, off + j * 5 + 4, none⟩ = some (.int .i64 d.c)) (first | exact hOk.out _ ((Below.refl _ _).drew) | exact hOk.out _ (bt6 (by assumption) hbq) | exact hOk.out _ (bs6 (by assumption)) | exact hOk.out _ (bd6 (by assumption)) | go_keep) (first | (go_at_call 67; refine (cL.out _).mono ?_; rintro e q ⟨rfl, hbq⟩) | (go_at_call 79; refine (cP.out _).mono ?_; rintro e q ⟨rfl, rfl⟩))
            rename_i hHeld
            have hB6 := Lib.hid (hBq.out.trans (hHeld.1.mono hzq))
            clear hHeld hOk cL cP ej e0 f0 f1 f2 f3 f4
            go_wp2_with fail
            exact ⟨⟨_, rfl, hB6.out, .inr (.inr (.inl ⟨rfl, hP2.out⟩))⟩, by simp [intOf]⟩
          · have hp0 : 0 ≤ p ∧ p ≤ 100000000000 := by omega
            have hP := Lib.hid hp
            clear hp
            have hT' : tmS ds vn jc = csum ds ((jc : Int)).toNat * 3 ^ ((gt ds ((jc : Int)).toNat).lev - vn - 1).toNat := rfl
            obtain ⟨hj0, hj1, hj2⟩ := hKc
            generalize jc = j at *
            have hjk : j < k := by omega
            have hjn : j < n := by omega
            have hlb := lev_bd (up_of hK.out) (i := j) (by rw [hLn.out]; omega)
            have hcb := csum_bd hK.out (i := j) (by rw [hLn.out]; omega)
            have hge : -1 ≤ (gt ds j).v := allOk_ge hK.out (by rw [hLn.out]; omega)
            rw [Int.toNat_natCast] at hT'
            obtain ⟨ln, hln⟩ : ∃ ln : Nat, (gt ds j).lev = ln := ⟨_, (Int.toNat_of_nonneg hlb.1).symm⟩
            obtain ⟨g', off', eA, hg', hat⟩ := (hH.out.below hBB.out).gt_ (k := j) (by omega)
            injection eA with eA
            injection eA with eA1 eA2 _
            subst eA1 eA2
            have cL := Lib.hid (fun wx => l11Level_any (gt ds j) hge wx)
            rw [hln] at cL hT' hj2
            obtain ⟨ex, hex⟩ : ∃ ex : Nat, ex = ln - (vn + 1) := ⟨_, rfl⟩
            have hex3 : ex ≤ 3 := by omega
            have hsub1 : IntKind.i64.wrap ((ln : Int) - (vn : Int)) = ((ex : Int) + 1) := by rw [IntKind.wrap_i64]; omega
            have hsub2 : IntKind.i64.wrap ((ex : Int)) = (ex : Int) := by rw [IntKind.wrap_i64]; omega
            rw [show ((ln : Int) - vn - 1).toNat = ex by omega] at hT'
            have cP := Lib.hid (fun wx => l1Power_any ex hex3 wx)
            rw [p3_pow] at cP
            have hlst := IOwn.lst hOq.out
            obtain ⟨go2, og, eO, hgo2, hcs⟩ := hlst.2 (by omega)
            have ej := hcs j (csum ds j) (by rw [List.getElem?_map, List.getElem?_range hjk]; rfl)
            have htb : 0 ≤ tmS ds vn j ∧ tmS ds vn j ≤ 27000000000 := hTc
            rw [hT'] at htb
            have hP2 := Lib.hid (show p + csum ds j * 3 ^ ex = 0 + tmS ds vn ja + tmS ds vn jb + tmS ds vn j by rw [hP.out, hT'])
            generalize csum ds j = cj at *
            generalize gt ds j = d at *
            obtain ⟨c0, c1, c2, c3, c4⟩ := hat.open_
            have hgz : g < wq.heap.size := by omega
            have hwm : IntKind.i64.wrap (cj * 3 ^ ex) = cj * 3 ^ ex := by generalize cj * 3 ^ ex = y at htb; rw [IntKind.wrap_i64]; omega
            have hwa : IntKind.i64.wrap (p + cj * 3 ^ ex) = p + cj * 3 ^ ex := by generalize cj * 3 ^ ex = y at htb; rw [IntKind.wrap_i64]; omega
            have hOk := Lib.hid (fun (wx : World) (hx : Below wq.heap.size wq wx) => (show Below wq.heap.size wq wx ∧ wx.cell? ⟨go2, og + j, none⟩ = some (.int .i64 cj) ∧ wx.cell? ⟨gc, 0, none⟩ = some (.int .i64 (vn : Int)) ∧ wx.cell? ⟨g, off + j * 5, none⟩ = some (.int .i64 d.v) ∧ wx.cell? ⟨g, off + j * 5 + 1, none⟩ = some (.int .i64 d.n) ∧ wx.cell? ⟨g, off + j * 5 + 2, none⟩ = some (.int .i64 d.a) ∧ wx.cell? ⟨g, off + j * 5 + 3, none⟩ = some (.int .i64 d.b) ∧ wx.cell? ⟨g, off + j * 5 + 4, none⟩ = some (.int .i64 d.c) from ⟨hx, (hx.cell (p := ⟨go2, og + j, none⟩) (by exact hgo2)).trans ej, (hWq.out.kept hx).cell 0, (hx.cell (p := ⟨g, off + j * 5, none⟩) (by exact hgz)).trans c0, (hx.cell (p := ⟨g, off + j * 5 + 1, none⟩) (by exact hgz)).trans c1, (hx.cell (p := ⟨g, off + j * 5 + 2, none⟩) (by exact hgz)).trans c2, (hx.cell (p := ⟨g, off + j * 5 + 3, none⟩) (by exact hgz)).trans c3, (hx.cell (p := ⟨g, off + j * 5 + 4, none⟩) (by exact hgz)).trans c4⟩))
            have hxc := hWq.out.cell
            have hq0 : (0 : Int) ≤ (j : Int) := by omega
            have hq1 : (j : Int) < (n : Int) := by omega
            have hq2 : (j : Int) < (k : Int) := by omega
            subst eO
            clear hat hT' hlb hcb c0 c1 c2 c3 c4 hj0 hj1 hj2 hln hlst hcs ej hge hex hTa hTbb hTc
            go_wp2_with fail
            clear hxc
            obtain ⟨_, ej, e0, f0, f1, f2, f3, f4⟩ := hOk.out wq (Below.refl _ _)
            go_region_held3 (fun wx => Below wq.heap.size wq wx ∧ wx.cell? ⟨go2, og + j, none⟩ = some (.int .i64 cj) ∧ wx.cell? ⟨gc, 0, none⟩ = some (.int .i64 (vn : Int)) ∧ wx.cell? ⟨g, off + j * 5, none⟩ = some (.int .i64 d.v) ∧ wx.cell? ⟨g, off + j * 5 + 1, none⟩ = some (.int .i64 d.n) ∧ wx.cell? ⟨g, off + j * 5 + 2, none⟩ = some (.int .i64 d.a) ∧ wx.cell? ⟨g, off + j * 5 + 3, none⟩ = some (.int .i64 d.b) ∧ wx.cell? ⟨g, off + j * 5 + 4, none⟩ = some (.int .i64 d.c)) (first | exact hOk.out _ ((Below.refl _ _).drew) | exact hOk.out _ (bt6 (by assumption) hbq) | exact hOk.out _ (bs6 (by assumption)) | exact hOk.out _ (bd6 (by assumption)) | go_keep) (first | (go_at_call 67; refine (cL.out _).mono ?_; rintro e q ⟨rfl, hbq⟩) | (go_at_call 79; refine (cP.out _).mono ?_; rintro e q ⟨rfl, rfl⟩))
            rename_i hHeld
            have hB6 := Lib.hid (hBq.out.trans (hHeld.1.mono hzq))
            clear hHeld hOk cL cP ej e0 f0 f1 f2 f3 f4
            go_wp2_with fail
            exact ⟨⟨_, rfl, hB6.out, .inr (.inr (.inr ⟨rfl, hP2.out⟩))⟩, by simp [intOf]⟩
          · rw [← hp] at hSn
            have hO3 := Lib.hid (hOq.out.alloc (.cells #[.int .i64 p] 3))
            have hnw := Lib.hid (new_one wq (.int .i64 p) 3)
            have hB3 := Lib.hid (hBB.out.alloc hBB.out.size (.cells #[.int .i64 p] 3))
            clear hp hTa hTbb hTc hKa hKb hKc
            go_wp2_with (at_builtin; refine wpList_append_lies _ rfl (.tmp 52) (.tmp 54) 31 rfl go 3 i0 _ 1 8 Try.underlying31 hi0 hz0 hz1' hz2' rfl (by decide) (.slice Ao k co) k (ints ((List.range k).map (csum ds))) rfl (by have := hO3.out; unfold IOwn at this; rwa [hlk] at this) ⟨wq.heap.size, 0, none⟩ 1 1 [.int .i64 p] rfl rfl (by exact hnw.out) (by simp [Value.oneCell']) (by omega) (by unfold maxLen; omega) (by omega) (by simp; omega) (wq.heap.size + 1) (by simp) ?_; intro gr cr2 w8 hown8 hgrow8 hat8 hlt8)
            have hF := Lib.hid (IOwn.append_ (news := [p]) hO3.out (by rw [hlk]; exact hown8) hgrow8 (show Below go w (wq.alloc (.cells #[.int .i64 p] 3)) from by rw [← hgoh.out]; exact hB3.out) (by simp; omega))
            clear hown8 hgrow8 hat8
            go_wp2_with fail
            go_roundg (n - (k + 1))
            case measure => omega
            case rel => exact ⟨k + 1, by omega, rfl, by go_num, by rw [hSn.out]; exact hF.out.1, by have := hF.out.2; rw [← hgoh.out] at this; exact this⟩
    · obtain rfl : n = k := by omega
      clear hlk
      go_wp2_with fail
      go_ret
      exact ⟨_, rfl, by rw [hgoh.out]; exact hO'.out, hB'.out⟩
theorem specCellSums_any (A : Option Addr) (n c : Nat) (ds : List Ce) (w : World) (h : CLst w w.heap.size A n ds) (hn : n ≤ maxLen) (hc : c ≤ maxLen) (hnc : n ≤ c) :
    Calls Try.prog 38 #[.slice A n c] w fun e w' => ∃ v, e = .returned v ∧ IOwn w' w.heap.size v (csums ds) ∧ Below w.heap.size w w' := by
  have cD := Lib.hid (specDiagramOk_any A n c ds w h hn hc hnc)
  have hH := Lib.hid h
  have hL := h.1
  clear h
  cases hd : diaOk ds
  · have hR := Lib.hid (show csums ds = [] by unfold csums; rw [hd]; rfl)
    rw [hd] at cD
    clear hd hL hn hc hnc
    go_enter Try.func38, Try.ntmps38
    go_wp2_with fail
    refine cD.out.mono ?_
    rintro e w1 ⟨rfl, hb⟩
    have hB := Lib.hid hb
    clear hb
    go_wp2_with fail
    go_ret
    exact ⟨_, rfl, by rw [hR.out]; exact IOwn.nil _ _, hB.out⟩
  · have hR := Lib.hid (show csums ds = (List.range n).map (csum ds) by unfold csums; rw [if_pos hd, hL])
    rw [hd] at cD
    obtain ⟨d1, d2, d3⟩ := dia_parts hd
    rw [hL] at d2
    have cN := Lib.hid (fun (wx : World) (hx : CLst wx wx.heap.size A n ds) => l11Sums_any A n c ds wx hx d2 d3)
    clear hd d1 d2 d3 hL hn hc hnc
    go_enter Try.func38, Try.ntmps38
    go_wp2_with fail
    refine cD.out.mono ?_
    rintro e w1 ⟨rfl, hb⟩
    have hB := Lib.hid hb
    clear hb
    go_wp2_with fail
    refine (cN.out _ ((hH.out.below hB.out).more hB.out.size)).mono ?_
    rintro e w2 ⟨v, rfl, hO, hb2⟩
    have hO2 := Lib.hid (show IOwn w2 w.heap.size v ((List.range n).map (csum ds)) from owns_le hO hB.out.size)
    have hB2 := Lib.hid (hB.out.trans (hb2.mono hB.out.size))
    clear hO hb2
    go_wp2_with fail
    go_ret
    exact ⟨_, rfl, by rw [hR.out]; exact hO2.out, hB2.out⟩
end Go.Proofs.Ytghkpmafocacoaa
