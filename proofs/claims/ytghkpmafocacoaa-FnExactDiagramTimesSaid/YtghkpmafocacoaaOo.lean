/- Diagrams: the model's DiagramList. -/
import Derived.Test.YtghkpmafocacoaaOn
import Derived.Deep.LoopGhost
import Derived.Deep.AppendLies
namespace Go.Proofs.Ytghkpmafocacoaa
set_option maxRecDepth 100000
set_option linter.unusedVariables false
open Go.RowKit

theorem dlist_take (os : List Int) {k : Nat} {x : Int} (h : os[k]? = some x) : os.take (k + 1) = os.take k ++ [x] := by
  have hl : k < os.length := (List.getElem?_eq_some_iff.1 h).1
  rw [List.take_succ_eq_append_getElem hl, (List.getElem?_eq_some_iff.1 h).2]
theorem specDiagramList_any (A : Option Addr) (n c : Nat) (ds : List Ce) (w : World) (h : CLst w w.heap.size A n ds) (hn : n ≤ maxLen) (hc : c ≤ maxLen) (hnc : n ≤ c) :
    Calls Try.prog 22 #[.slice A n c] w fun e w' => ∃ v, e = .returned v ∧ IOwn w' w.heap.size v (dlistOf ds) ∧ Below w.heap.size w w' := by
  have hL := h.1
  have hb0 : Below w.heap.size w (w.alloc (.cells #[] 3)) := (Below.refl _ _).alloc (Nat.le_refl _) _
  have cD := Lib.hid (specDiagramOk_any A n c ds (w.alloc (.cells #[] 3)) ((h.below hb0).more hb0.size) hn hc hnc)
  have hO0 := Lib.hid (IOwn.of_has (ds := []) (n := 0) (base := w.heap.size) (Has.new w 3 #[]) rfl rfl (Nat.le_refl _) (by decide))
  have hB0 := Lib.hid hb0
  have hH := Lib.hid h
  clear h hb0
  obtain ⟨i0, hi0, hz0, hz1', hz2'⟩ := info_parts info_int
  cases hd : diaOk ds
  · have hR := Lib.hid (show dlistOf ds = [] by unfold dlistOf; rw [hd]; rfl)
    rw [hd] at cD
    clear hd hL hn hc hnc
    go_enter Try.func22, Try.ntmps22
    go_wp2_with fail
    refine cD.out.mono ?_
    rintro e w1 ⟨rfl, hb⟩
    have hB := Lib.hid (hB0.out.trans (hb.mono hB0.out.size))
    have hO := Lib.hid (hO0.out.below hb)
    clear hb
    go_wp2_with fail
    go_ret
    exact ⟨_, rfl, by rw [hR.out]; exact hO.out, hB.out⟩
  · have hR := Lib.hid (show dlistOf ds = dlist ds by unfold dlistOf; rw [hd]; rfl)
    rw [hd] at cD
    obtain ⟨d1, d2, d3⟩ := dia_parts hd
    have cN := Lib.hid (fun (z : Nat) (hz : z < 81) (wx : World) (hx : CLst wx wx.heap.size A n ds) => l11At_any A n c z ds wx hx (by omega) (by omega) d3 (by omega))
    have hG := Lib.hid (fun (k : Nat) (h : k < 81) => dlist_get ds h)
    have hdl := Lib.hid (dlist_length ds)
    generalize dlist ds = os at *
    clear hd d1 d2 d3 hL hn hc hnc
    go_enter Try.func22, Try.ntmps22
    go_wp2_with fail
    refine cD.out.mono ?_
    rintro e w1 ⟨rfl, hb⟩
    have hB1 := Lib.hid (hB0.out.trans (hb.mono hB0.out.size))
    have hO1 := Lib.hid (hO0.out.below hb)
    clear hb
    generalize hgo : w.heap.size = go at hO1 ⊢
    have hgoh := Lib.hid hgo
    clear hgo
    go_wp2_with fail
    go_loopg [3, 4] 81 (fun gn v i wr => ∃ k : Nat, k ≤ 81 ∧ gn = 81 - k ∧ i = .int .i64 k ∧ IOwn wr go v (os.take k) ∧ Below w.heap.size w wr)
    case atStart => exact ⟨0, Nat.zero_le _, rfl, rfl, hO1.out, hB1.out⟩
    case round =>
      obtain ⟨k, hk, hgn, rfl, hO, hB⟩ := hrel
      have hgk : gk = 81 - k := hgn
      clear hgn
      obtain ⟨Ao, co, hvo, hco1, hco2⟩ := hO.form
      have hlk : (os.take k).length = k := by rw [List.length_take, hdl.out]; omega
      rw [hlk] at hvo
      subst hvo
      have hO' := Lib.hid hO
      have hB' := Lib.hid hB
      have hBz := hB.size
      have hHr := Lib.hid ((hH.out.below hB).more hBz)
      clear hO hB
      by_cases hlt : k < 81
      · have hk0 : (0 : Int) ≤ (k : Int) := by omega
        have hk1 : (k : Int) < 81 := by omega
        have cK := Lib.hid (cN.out k hlt wr hHr.out)
        have hSn := Lib.hid (dlist_take os (hG.out k hlt))
        generalize dnum ds k = x at *
        go_wp2_with fail
        refine cK.out.mono ?_
        rintro e w5 ⟨rfl, hb5⟩
        have hO5 := Lib.hid (hO'.out.below hb5)
        have hB5 := Lib.hid (hB'.out.trans (hb5.mono hBz))
        have hO3 := Lib.hid (hO5.out.alloc (.cells #[.int .i64 x] 3))
        have hnw := Lib.hid (new_one w5 (.int .i64 x) 3)
        have hB3 := Lib.hid (hB5.out.alloc hB5.out.size (.cells #[.int .i64 x] 3))
        have hBz5 := hB5.out.size
        have hgz : go ≤ w5.heap.size := by rw [← hgoh.out]; exact hBz5
        clear hb5
        go_wp2_with (at_builtin; refine wpList_append_lies _ rfl (.tmp 14) (.tmp 18) 31 rfl go 3 i0 _ 1 8 Try.underlying31 hi0 hz0 hz1' hz2' rfl (by decide) (.slice Ao k co) k (ints (os.take k)) rfl (by have := hO3.out; unfold IOwn at this; rwa [hlk] at this) ⟨w5.heap.size, 0, none⟩ 1 1 [.int .i64 x] rfl rfl (by exact hnw.out) (by simp [Value.oneCell']) (by omega) (by unfold maxLen; omega) (by omega) (by simp; omega) (w5.heap.size + 1) (by simp) ?_; intro gr cr2 w8 hown8 hgrow8 hat8 hlt8)
        have hF := Lib.hid (IOwn.append_ (news := [x]) hO3.out (by rw [hlk]; exact hown8) hgrow8 (show Below go w (w5.alloc (.cells #[.int .i64 x] 3)) from by rw [← hgoh.out]; exact hB3.out) (by simp; omega))
        clear hown8 hgrow8 hat8
        go_wp2_with fail
        go_roundg (81 - (k + 1))
        case measure => omega
        case rel => exact ⟨k + 1, by omega, rfl, by go_num, by rw [hSn.out]; exact hF.out.1, by have := hF.out.2; rw [← hgoh.out] at this; exact this⟩
      · obtain rfl : k = 81 := by omega
        have hAll := Lib.hid (show os.take 81 = os from List.take_of_length_le (by rw [hdl.out]; omega))
        clear hlk
        go_wp2_with fail
        go_ret
        exact ⟨_, rfl, by rw [hR.out, hgoh.out, ← hAll.out]; exact hO'.out, hB'.out⟩
end Go.Proofs.Ytghkpmafocacoaa
