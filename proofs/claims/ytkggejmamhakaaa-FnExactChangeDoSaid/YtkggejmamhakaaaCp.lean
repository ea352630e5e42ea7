/- A change done: the model's l6Do and ChangeDo. -/
import Derived.Test.YtkggejmamhakaaaCu
import Derived.Test.YtkggejmamhakaaaCr
import Derived.Test.YtkggejmamhakaaaCk
namespace Go.Proofs.Ytkggejmamhakaaa
set_option maxRecDepth 100000
set_option linter.unusedVariables false
open Go.RowKit

theorem l6Do_any (g off n cap k : Nat) (ps : List St) (c : Int) (a : St) (w : World) (h : Lst w w.heap.size (some ⟨g, off, none⟩) n ps) (hn : n ≤ 10) (hc : 0 ≤ c ∧ c ≤ 4) (ha : ps[k]? = some a) (hoa : a.ok = true ∧ a.k < 6) (hob : ∀ b, ps[k + 1]? = some b → b.ok = true ∧ b.k < 6) (hf : fits c a ps[k + 1]? = true) :
    Calls Try.prog 58 #[.slice (some ⟨g, off, none⟩) n cap, .int .i64 c, .int .i64 (k : Int)] w (OwndM w (chDone c ps k)) := by
  by_cases h3 : c = 3
  · subst h3
    exact l6Do_3 g off n cap k ps a w h hn ha hoa hf
  · cases hb : ps[k + 1]? with
    | none => rw [hb] at hf; exact absurd (fits_none hc hf) h3
    | some b =>
      rw [hb] at hf
      have hbb := hob b hb
      obtain rfl | rfl | rfl | rfl | rfl : c = 0 ∨ c = 1 ∨ c = 2 ∨ c = 3 ∨ c = 4 := by omega
      · exact l6Do_0 g off n cap k ps a b w h hn ha hb hoa hbb hf
      · exact l6Do_1 g off n cap k ps a b w h hn ha hb hoa hbb hf
      · exact l6Do_2 g off n cap k ps a b w h hn ha hb hoa hbb hf
      · exact absurd rfl h3
      · exact l6Do_4 g off n cap k ps a b w h hn ha hb hoa hbb hf
set_option maxHeartbeats 1000000 in
theorem specChangeDo_any (A : Option Addr) (n cap : Nat) (ps : List St) (c z : Int) (w : World) (h : Lst w w.heap.size A n ps) (hn : n ≤ cap) (hc : cap ≤ maxLen) (hbig : n ≤ 1048576) :
    Calls Try.prog 24 #[.slice A n cap, .int .i64 c, .int .i64 z] w (Dod w (cgDo ps c z) (cgOk ps c z)) := by
  have hL := Lib.hid h.1
  have hH := Lib.hid h
  have cO := Lib.hid (specChangeOk_any A n cap ps c z w h hn hc hbig)
  clear h
  cases hp : cgOk ps c z
  · have hR := Lib.hid (show cgDo ps c z = [] by unfold cgDo; rw [if_neg (by rw [hp]; decide)])
    go_enter Try.func24, Try.ntmps24
    go_wp2_with fail
    refine cO.out.mono ?_
    rw [hp]
    rintro e w1 ⟨rfl, hb⟩
    go_wp2_with fail
    go_ret2
    exact ⟨_, rfl, by rw [hR.out]; exact Own.nil _ _, hb⟩
  · obtain ⟨hpl, hcc, hz0, hf⟩ := cg_parts hp
    obtain ⟨k, rfl⟩ : ∃ k : Nat, z = k := ⟨z.toNat, by omega⟩
    obtain ⟨a, ha, hfa⟩ := fitAt_some hf
    rw [Int.toNat_natCast] at ha hfa
    have hR := Lib.hid (show cgDo ps c k = chDone c ps k by unfold cgDo; rw [if_pos hp, Int.toNat_natCast])
    have hok := (plain_iff.1 hpl).2
    have h10 := (plain_iff.1 hpl).1
    obtain ⟨g, off, _, rfl, _⟩ := hH.out.at_ (k := k) (by have := (List.getElem?_eq_some_iff.1 ha).1; have := hL.out; omega)
    have cD := Lib.hid (fun wx (hx : Lst wx wx.heap.size (some ⟨g, off, none⟩) n ps) => l6Do_any g off n cap k ps c a wx hx (by have := hL.out; omega) hcc ha (hok a (List.mem_of_getElem? ha)) (fun b hb => hok b (List.mem_of_getElem? hb)) hfa)
    clear hpl hcc hz0 hf ha hfa hok h10
    go_enter Try.func24, Try.ntmps24
    go_wp2_with fail
    refine cO.out.mono ?_
    rw [hp]
    rintro e w1 ⟨rfl, hb⟩
    go_wp2_with fail
    refine (cD.out _ ((hH.out.below hb).more hb.size)).mono ?_
    rintro e w2 ⟨v, rfl, ho, hb2⟩
    have hF := Lib.hid (show Dod w (cgDo ps c k) true (.returned (.tuple #[v, .bool true])) w2 from ⟨v, rfl, by rw [hR.out]; exact owns_le ho hb.size, hb.trans (hb2.mono hb.size)⟩)
    obtain ⟨A5, c5, hv5, _, _⟩ := ho.form
    subst hv5
    clear ho hb2 hb
    go_wp2_with fail
    go_ret2
    exact hF.out
end Go.Proofs.Ytkggejmamhakaaa
