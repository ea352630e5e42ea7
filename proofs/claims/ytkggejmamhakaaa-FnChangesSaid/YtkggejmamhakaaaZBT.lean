/- Parts of the proof: Cp. -/
import Derived.Test.YtkggejmamhakaaaZBD
import Derived.Test.YtkggejmamhakaaaZBE
import Derived.Test.YtkggejmamhakaaaZBF
import Derived.Test.YtkggejmamhakaaaZAY
import Derived.Test.YtkggejmamhakaaaZBK
import Derived.Test.YtkggejmamhakaaaZBS
namespace Go.Proofs.Ytkggejmamhakaaa
set_option maxRecDepth 100000
set_option linter.unusedVariables false
open Go.RowKit
theorem changed_any (c : Int) (a : St) (ob : Option St) (A : Option Addr) (cap : Nat) (w : World) (hc : 0 ≤ c ∧ c ≤ 4) (ha : a.ok = true ∧ a.k < 6) (hb : ∀ b, ob = some b → b.ok = true ∧ b.k < 6) (h : Lst w w.heap.size A (1 + ob.toList.length) (a :: ob.toList)) (hcap : 1 + ob.toList.length ≤ cap) (hcm : cap ≤ maxLen) (hf : fits c a ob = true) :
    Calls Try.prog 90 #[.int .i64 c, .slice A (1 + ob.toList.length) cap] w (Lsd w (chg c a ob)) := by
  cases ob with
  | none =>
    obtain rfl := fits_none hc hf
    exact changed_none a A cap w ha h hcap hcm hf
  | some b =>
    obtain rfl | rfl | rfl | rfl | rfl : c = 0 ∨ c = 1 ∨ c = 2 ∨ c = 3 ∨ c = 4 := by omega
    · exact changed_0 a b A cap w ha (hb b rfl) h hcap hcm hf
    · exact changed_1 a b A cap w ha (hb b rfl) h hcap hcm hf
    · exact changed_2 a b A cap w ha (hb b rfl) h hcap hcm hf
    · exact changed_3 a b A cap w ha (hb b rfl) h hcap hcm hf
    · exact changed_4 a b A cap w ha (hb b rfl) h hcap hcm hf
theorem drop_win (ps : List St) (k : Nat) (h : k < ps.length) : ps.drop (k + (1 + ps[k + 1]?.toList.length)) = ps.drop (k + 2) := by
  cases hb : ps[k + 1]? with
  | none =>
    have := List.getElem?_eq_none_iff.1 hb
    rw [List.drop_eq_nil_of_le (by show ps.length ≤ k + (1 + 0); omega), List.drop_eq_nil_of_le (by omega)]
  | some b => rfl
def Ownd (w : World) (os : List St) (e : Ending) (w' : World) : Prop := ∃ v, e = .returned v ∧ Own w' w.heap.size v os ∧ Below w.heap.size w w'
set_option maxHeartbeats 2000000 in
theorem withChange_any (A : Option Addr) (n cap k : Nat) (ps : List St) (c : Int) (a : St) (w : World) (h : Lst w w.heap.size A n ps) (hn : n ≤ cap) (hcm : cap ≤ maxLen) (h10 : n ≤ 10) (hc : 0 ≤ c ∧ c ≤ 4) (ha : ps[k]? = some a) (hoa : a.ok = true ∧ a.k < 6) (hob : ∀ b, ps[k + 1]? = some b → b.ok = true ∧ b.k < 6) (hf : fits c a ps[k + 1]? = true) :
    Calls Try.prog 57 #[.slice A n cap, .int .i64 c, .int .i64 (k : Int)] w (Ownd w (chDone c ps k)) := by
  have hL := h.1
  have hk : k < n := by have := (List.getElem?_eq_some_iff.1 ha).1; omega
  obtain ⟨g, off, _, rfl, hg, _, _⟩ := h.at_ hk
  have hH := Lib.hid h
  have cW := Lib.hid (windowAt_any (some ⟨g, off, none⟩) n cap k w.heap.size ps a w h hn hcm ha)
  have hcl := Lib.hid (chg_len (c := c) (a := a) (ob := ps[k + 1]?))
  have cC := Lib.hid (fun A' cap' wx hx h1 h2 => changed_any c a ps[k + 1]? A' cap' wx hc hoa hob hx h1 h2 hf)
  have hD := Lib.hid (done_eq (c := c) ha)
  have hdw := Lib.hid (drop_win ps k (by omega))
  have hwl : k + (1 + ps[k + 1]?.toList.length) ≤ n := by
    have := congrArg List.length (split_at ha)
    simp only [List.length_append, List.length_cons] at this
    rw [List.length_take] at this
    omega
  have hw2 : 1 + ps[k + 1]?.toList.length ≤ 2 := by cases ps[k + 1]? <;> simp
  generalize hqs : chg c a ps[k + 1]? = qs at *
  have hLw : (a :: ps[k + 1]?.toList).length = 1 + ps[k + 1]?.toList.length := by rw [List.length_cons]; omega
  unfold Wind at cW
  generalize a :: ps[k + 1]?.toList = win at *
  generalize 1 + ps[k + 1]?.toList.length = L at *
  have hN := Lib.hid (show (w.alloc (.cells #[] 63)).ownsRow w.heap.size 63 7 (.slice (some ⟨w.heap.size, 0, none⟩) 0 0) 0 (flat []) from
    ⟨rfl, .inr ⟨w.heap.size, 0, #[], rfl, Nat.le_refl _, Has.new w _ _, Nat.le_refl _, Nat.zero_le _, rfl, rfl⟩⟩)
  obtain ⟨i0, hi0, hz0, hz1', hz2'⟩ := info_parts info_stmt
  have hB : Below w.heap.size w (w.alloc (.cells #[] 63)) := (Below.refl _ _).alloc (Nat.le_refl _) _
  have hk0 : (0 : Int) ≤ (k : Int) := by omega
  have hk1 : (k : Int) ≤ (n : Int) := by omega
  have hk2 : (k : Int) ≤ (cap : Int) := by omega
  have hnc : (n : Int) ≤ (cap : Int) := by omega
  have hs1 : ∀ wx, Below w.heap.size w wx → ∀ j u, (flat (ps.take k))[j]? = some u → wx.cell? ((⟨g, off, none⟩ : Addr).add j) = some u := fun wx hx j u hu => by
    by_cases hk0 : 0 < k
    · have := (hH.out.below hx).part (k := 0) (m := k) hk0 (by omega) j u (by simpa using hu)
      simpa using this
    · obtain rfl : k = 0 := by omega
      simp [flat] at hu
  have hs1h := Lib.hid hs1
  have hlt : (ps.take k).length = k := by rw [List.length_take]; omega
  clear h ha hoa hob hf hs1 hqs
  go_enter Try.func57, Try.ntmps57
  go_wp2_with fail
  refine cW.out.mono ?_
  rintro e w1 ⟨A', cap', rfl, hc1, hc2, hl, hbe⟩
  obtain rfl := hbe
  have hlh := Lib.hid hl
  clear hl
  go_wp2_with (at_builtin; refine wpList_append_own _ rfl (.tmp 12) (.tmp 15) 23 rfl w.heap.size 63 i0 _ 7 56 Try.underlying23 hi0 hz0 hz1' hz2' rfl (by decide) (.slice (some ⟨w.heap.size, 0, none⟩) 0 0) 0 (flat []) rfl (by exact hN.out) ⟨g, off, none⟩ k cap (flat (ps.take k)) ?hx (by rw [flat_length, hlt]) (by exact hs1h.out _ hB) (flat_one _) (by unfold maxLen; omega) (by omega) (by simp) ?_)
  case hx => first | rfl | simp [Act.eval]
  intro v2 w2 hown2 hgrow2 _
  obtain ⟨A2, c2, hv2, hl2, hm2⟩ := owns_form hown2
  subst hv2
  have hO2 : Own w2 w.heap.size (.slice A2 k c2) (ps.take k) := by
    unfold Own
    rw [hlt]
    simpa [flat] using hown2
  have hB2 : Below w.heap.size w w2 := hB.grown hgrow2 (by simp) (fun k hk => by
    have h1 : w.heap.size = k := by simpa [Value.ownBlock] using hk
    omega)
  have hO2h := Lib.hid hO2
  have hB2h := Lib.hid hB2
  clear hown2 hgrow2 hN hB hO2 hB2
  go_wp2_with fail
  refine (cC.out A' cap' _ ((hlh.out.below hB2h.out).more hB2h.out.size) hc1 hc2).mono ?_
  rintro e w3 ⟨A3, c3, rfl, hc3, hm3, hl3, hb3⟩
  obtain ⟨g3, off3, rfl, hg3, hx3⟩ := hl3.2 (by have := hcl.out; omega)
  have hO3h := Lib.hid (hO2h.out.below hb3)
  have hB3h := Lib.hid (hB2h.out.trans (hb3.mono hB2h.out.size))
  have hsrc3 := Lib.hid (show ∀ j u, (flat qs)[j]? = some u → w3.cell? ((⟨g3, off3, none⟩ : Addr).add j) = some u from fun j u hu => by
    have := hl3.part (k := 0) (m := qs.length) (by have := hcl.out; omega) (by omega) j u (by simpa using hu)
    simpa using this)
  have hql : qs.length ≤ 2 := by have := hcl.out; omega
  clear hl3 hb3 hx3
  have hO3r : w3.ownsRow w.heap.size 63 7 (.slice A2 k c2) k (flat (ps.take k)) := by
    have := hO3h.out
    unfold Own at this
    rwa [hlt] at this
  go_wp2_with (at_builtin; refine wpList_append_own _ rfl (.tmp 17) (.tmp 20) 23 rfl w.heap.size 63 i0 _ 7 56 Try.underlying23 hi0 hz0 hz1' hz2' rfl (by decide) (.slice A2 k c2) k (flat (ps.take k)) ?hs (by exact hO3r) ⟨g3, off3, none⟩ qs.length c3 (flat qs) ?hx (by rw [flat_length]) (by exact hsrc3.out) (flat_one _) (by unfold maxLen; omega) (by omega) (by have := hB3h.out.size; omega) ?_)
  case hs => first | rfl | simp [Act.eval]
  case hx => first | rfl | simp [Act.eval]
  intro v4 w4 hown4 hgrow4 _
  obtain ⟨A4, c4, hv4, hl4, hm4⟩ := owns_form hown4
  subst hv4
  have hf4 := hO3h.out.append_ (news := qs) (by rw [hlt]; exact hown4) hgrow4 hB3h.out hB3h.out.size
  have hO4h := Lib.hid hf4.1
  have hB4h := Lib.hid hf4.2
  have hO4r := Lib.hid hown4
  have hsrc5 := Lib.hid (show ∀ j u, (flat (ps.drop (k + L)))[j]? = some u → w4.cell? ((⟨g, off + (k + L) * 7, none⟩ : Addr).add j) = some u from fun j u hu => by
    by_cases hr : k + L < n
    · have h2 : ((ps.drop (k + L)).take (n - (k + L))) = ps.drop (k + L) := List.take_of_length_le (by rw [List.length_drop]; omega)
      exact (hH.out.below hB4h.out).part (k := k + L) (m := n - (k + L)) (by omega) (by omega) j u (by rw [h2]; exact hu)
    · rw [List.drop_eq_nil_of_le (by omega)] at hu
      simp [flat] at hu)
  have hdl : (ps.drop (k + L)).length = n - (k + L) := by rw [List.length_drop]; omega
  have hOs5 := Lib.hid (fun (A9 : Addr) (h0 : n ≤ k + L) => (show ∀ j u, (flat (ps.drop (k + L)))[j]? = some u → w4.cell? (A9.add j) = some u from fun j u hu => by
    rw [List.drop_eq_nil_of_le (by omega)] at hu
    simp [flat] at hu))
  clear hown4 hgrow4 hf4 hO3h hO3r hB3h hsrc3
  have hkl : (k : Int) + (L : Int) ≤ (n : Int) := by omega
  have hkl2 : (k : Int) + (L : Int) ≤ (cap : Int) := by omega
  have hwL : IntKind.i64.wrap ((k : Int) + (L : Int)) = (k : Int) + (L : Int) := IntWalk.i64_in _ (by omega)
  have htn : ((k : Int) + (L : Int)).toNat = k + L := by omega
  have hcl2 : (ps.take k ++ qs).length = k + qs.length := by rw [List.length_append, hlt]
  have hfin := Lib.hid (fun (v : Value) (wz : World) (h1 : wz.ownsRow w.heap.size 63 7 v (k + qs.length + (n - (k + L))) (flat (ps.take k) ++ (flat qs ++ flat (ps.drop (k + L))))) (h2 : w4.grownBy wz (Value.slice A4 (k + qs.length) c4).ownBlock) => (show Ownd w (chDone c ps k) (.returned v) wz from by
    have hX : Own w4 w.heap.size (.slice A4 (k + qs.length) c4) (ps.take k ++ qs) := hO4h.out
    have h3 := hX.append_ (news := ps.drop (k + L)) (by rw [hcl2, hdl, flat_append, List.append_assoc]; exact h1) h2 hB4h.out hB4h.out.size
    rw [hD.out, ← hdw.out]
    exact ⟨v, rfl, h3.1, h3.2⟩))
  by_cases hcj : cap = k + L
  · go_wp2_with (at_builtin; refine wpList_append_own _ rfl (.tmp 22) (.tmp 28) 23 rfl w.heap.size 63 i0 _ 7 56 Try.underlying23 hi0 hz0 hz1' hz2' rfl (by decide) (.slice A4 (k + qs.length) c4) (k + qs.length) (flat (ps.take k) ++ flat qs) ?hs (by exact hO4r.out) ⟨g, off, none⟩ (n - (k + L)) (cap - (k + L)) (flat (ps.drop (k + L))) ?hx (by rw [flat_length, hdl]) (by exact hOs5.out _ (by omega)) (flat_one _) (by unfold maxLen; omega) (by omega) (by have := hB4h.out.size; omega) ?_)
    case hs => first | rfl | simp [Act.eval]
    case hx => first | rfl | (simp [Act.eval]; try omega)
    intro v5 w5 hown5 hgrow5 _
    obtain ⟨A5, c5, hv5, _, _⟩ := owns_form hown5
    subst hv5
    have hE := Lib.hid (hfin.out _ _ hown5 hgrow5)
    clear hown5 hgrow5
    go_wp2_with fail
    go_ret
    exact hE.out
  · go_wp2_with (at_builtin; refine wpList_append_own _ rfl (.tmp 22) (.tmp 28) 23 rfl w.heap.size 63 i0 _ 7 56 Try.underlying23 hi0 hz0 hz1' hz2' rfl (by decide) (.slice A4 (k + qs.length) c4) (k + qs.length) (flat (ps.take k) ++ flat qs) ?hs (by exact hO4r.out) ⟨g, off + (k + L) * 7, none⟩ (n - (k + L)) (cap - (k + L)) (flat (ps.drop (k + L))) ?hx (by rw [flat_length, hdl]) (by exact hsrc5.out) (flat_one _) (by unfold maxLen; omega) (by omega) (by have := hB4h.out.size; omega) ?_)
    case hs => first | rfl | simp [Act.eval]
    case hx => first | rfl | (simp [Act.eval]; try omega)
    intro v5 w5 hown5 hgrow5 _
    obtain ⟨A5, c5, hv5, _, _⟩ := owns_form hown5
    subst hv5
    have hE := Lib.hid (hfin.out _ _ hown5 hgrow5)
    clear hown5 hgrow5
    go_wp2_with fail
    go_ret
    exact hE.out
def cgDo (ps : List St) (c z : Int) : List St := if cgOk ps c z = true then chDone c ps z.toNat else []
def Dod (w : World) (os : List St) (ok : Bool) (e : Ending) (w' : World) : Prop := ∃ v, e = .returned (.tuple #[v, .bool ok]) ∧ Own w' w.heap.size v os ∧ Below w.heap.size w w'
set_option maxHeartbeats 1000000 in
theorem ChangeDo_any (A : Option Addr) (n cap : Nat) (ps : List St) (c z : Int) (w : World) (h : Lst w w.heap.size A n ps) (hn : n ≤ cap) (hc : cap ≤ maxLen) :
    Calls Try.prog 23 #[.slice A n cap, .int .i64 c, .int .i64 z] w (Dod w (cgDo ps c z) (cgOk ps c z)) := by
  have hL := Lib.hid h.1
  have hH := Lib.hid h
  have cO := Lib.hid (ChangeOk_any A n cap ps c z w h hn hc)
  clear h
  cases hp : cgOk ps c z
  · have hR := Lib.hid (show cgDo ps c z = [] by unfold cgDo; rw [if_neg (by rw [hp]; decide)])
    go_enter Try.func23, Try.ntmps23
    go_wp2_with fail
    refine cO.out.mono ?_
    rw [hp]
    rintro e w1 ⟨rfl, hb⟩
    go_wp2_with fail
    go_ret2
    exact ⟨_, rfl, by rw [hR.out]; exact Own.nil _ _, hb⟩
  · obtain ⟨hpl, hcc, hz0, hf⟩ := cg_parts hp
    obtain ⟨k, rfl⟩ : ∃ k : Nat, z = k := ⟨z.toNat, by omega⟩
    obtain ⟨a, ha, hfa⟩ := fitAt_some hf
    rw [Int.toNat_natCast] at ha hfa
    have hR := Lib.hid (show cgDo ps c k = chDone c ps k by unfold cgDo; rw [if_pos hp, Int.toNat_natCast])
    have hok := (plain_iff.1 hpl).2
    have h10 := (plain_iff.1 hpl).1
    have cD := Lib.hid (fun wx (hx : Lst wx wx.heap.size A n ps) => withChange_any A n cap k ps c a wx hx hn hc (by have := hL.out; omega) hcc ha (hok a (List.mem_of_getElem? ha)) (fun b hb => hok b (List.mem_of_getElem? hb)) hfa)
    clear hpl hcc hz0 hf ha hfa hok h10
    go_enter Try.func23, Try.ntmps23
    go_wp2_with fail
    refine cO.out.mono ?_
    rw [hp]
    rintro e w1 ⟨rfl, hb⟩
    go_wp2_with fail
    refine (cD.out _ ((hH.out.below hb).more hb.size)).mono ?_
    rintro e w2 ⟨v, rfl, ho, hb2⟩
    have hF := Lib.hid (show Dod w (cgDo ps c k) true (.returned (.tuple #[v, .bool true])) w2 from ⟨v, rfl, by rw [hR.out]; exact owns_le ho hb.size, hb.trans (hb2.mono hb.size)⟩)
    obtain ⟨A5, c5, hv5, _, _⟩ := ho.form
    subst hv5
    clear ho hb2 hb
    go_wp2_with fail
    go_ret2
    exact hF.out
end Go.Proofs.Ytkggejmamhakaaa
namespace Go.Proofs.Ytkggejmamhakaaa
set_option maxRecDepth 100000
set_option linter.unusedVariables false
open Go.RowKit
theorem l6Do_any (g off n cap k : Nat) (ps : List St) (c : Int) (a : St) (w : World) (h : Lst w w.heap.size (some ⟨g, off, none⟩) n ps) (hn : n ≤ 10) (hc : 0 ≤ c ∧ c ≤ 4) (ha : ps[k]? = some a) (hoa : a.ok = true ∧ a.k < 6) (hob : ∀ b, ps[k + 1]? = some b → b.ok = true ∧ b.k < 6) (hf : fits c a ps[k + 1]? = true) :
    Calls Try.prog 58 #[.slice (some ⟨g, off, none⟩) n cap, .int .i64 c, .int .i64 (k : Int)] w (OwndM w (chDone c ps k)) := by
  by_cases h3 : c = 3
  · subst h3
    exact l6Do_3 g off n cap k ps a w h hn ha hoa hf
  · cases hb : ps[k + 1]? with
    | none => rw [hb] at hf; exact absurd (fits_none hc hf) h3
    | some b =>
      rw [hb] at hf
      have hbb := hob b hb
      obtain rfl | rfl | rfl | rfl | rfl : c = 0 ∨ c = 1 ∨ c = 2 ∨ c = 3 ∨ c = 4 := by omega
      · exact l6Do_0 g off n cap k ps a b w h hn ha hb hoa hbb hf
      · exact l6Do_1 g off n cap k ps a b w h hn ha hb hoa hbb hf
      · exact l6Do_2 g off n cap k ps a b w h hn ha hb hoa hbb hf
      · exact absurd rfl h3
      · exact l6Do_4 g off n cap k ps a b w h hn ha hb hoa hbb hf
set_option maxHeartbeats 1000000 in
theorem specChangeDo_any (A : Option Addr) (n cap : Nat) (ps : List St) (c z : Int) (w : World) (h : Lst w w.heap.size A n ps) (hn : n ≤ cap) (hc : cap ≤ maxLen) (hbig : n ≤ 1048576) :
    Calls Try.prog 24 #[.slice A n cap, .int .i64 c, .int .i64 z] w (Dod w (cgDo ps c z) (cgOk ps c z)) := by
  have hL := Lib.hid h.1
  have hH := Lib.hid h
  have cO := Lib.hid (specChangeOk_any A n cap ps c z w h hn hc hbig)
  clear h
  cases hp : cgOk ps c z
  · have hR := Lib.hid (show cgDo ps c z = [] by unfold cgDo; rw [if_neg (by rw [hp]; decide)])
    go_enter Try.func24, Try.ntmps24
    go_wp2_with fail
    refine cO.out.mono ?_
    rw [hp]
    rintro e w1 ⟨rfl, hb⟩
    go_wp2_with fail
    go_ret2
    exact ⟨_, rfl, by rw [hR.out]; exact Own.nil _ _, hb⟩
  · obtain ⟨hpl, hcc, hz0, hf⟩ := cg_parts hp
    obtain ⟨k, rfl⟩ : ∃ k : Nat, z = k := ⟨z.toNat, by omega⟩
    obtain ⟨a, ha, hfa⟩ := fitAt_some hf
    rw [Int.toNat_natCast] at ha hfa
    have hR := Lib.hid (show cgDo ps c k = chDone c ps k by unfold cgDo; rw [if_pos hp, Int.toNat_natCast])
    have hok := (plain_iff.1 hpl).2
    have h10 := (plain_iff.1 hpl).1
    obtain ⟨g, off, _, rfl, _⟩ := hH.out.at_ (k := k) (by have := (List.getElem?_eq_some_iff.1 ha).1; have := hL.out; omega)
    have cD := Lib.hid (fun wx (hx : Lst wx wx.heap.size (some ⟨g, off, none⟩) n ps) => l6Do_any g off n cap k ps c a wx hx (by have := hL.out; omega) hcc ha (hok a (List.mem_of_getElem? ha)) (fun b hb => hok b (List.mem_of_getElem? hb)) hfa)
    clear hpl hcc hz0 hf ha hfa hok h10
    go_enter Try.func24, Try.ntmps24
    go_wp2_with fail
    refine cO.out.mono ?_
    rw [hp]
    rintro e w1 ⟨rfl, hb⟩
    go_wp2_with fail
    refine (cD.out _ ((hH.out.below hb).more hb.size)).mono ?_
    rintro e w2 ⟨v, rfl, ho, hb2⟩
    have hF := Lib.hid (show Dod w (cgDo ps c k) true (.returned (.tuple #[v, .bool true])) w2 from ⟨v, rfl, by rw [hR.out]; exact owns_le ho hb.size, hb.trans (hb2.mono hb.size)⟩)
    obtain ⟨A5, c5, hv5, _, _⟩ := ho.form
    subst hv5
    clear ho hb2 hb
    go_wp2_with fail
    go_ret2
    exact hF.out
end Go.Proofs.Ytkggejmamhakaaa
