/- Parts of the proof: K6. -/
import Derived.Test.YtaipdkfbkcknkaaZAO
namespace Go.Proofs.Ytaipdkfbkcknkaa
set_option maxRecDepth 100000
set_option linter.unusedVariables false
open Go.RowKit
def natsOf (os : List Int) : List Nat := os.map Int.toNat
def widthTo (Fs : List Fac) (os : List Int) : Int := if listOk Fs = true ∧ orderOk os = true then (((grS (setsF Fs)).wid (natsOf os) : Nat) : Int) else -1
def bestTo (Fs : List Fac) : List Int := if listOk Fs = true then nats (grS (setsF Fs)).best else []
def greedyTo (Fs : List Fac) : List Int := if listOk Fs = true then nats (grS (setsF Fs)).greedy else []
theorem ords1_ : ∀ a : Fin 4, [a.val] ∈ ordsAll := by decide +kernel
theorem ords2_ : ∀ a b : Fin 4, oOkF [(a.val : Int), (b.val : Int)] 0 = true → [a.val, b.val] ∈ ordsAll := by decide +kernel
theorem ords3_ : ∀ a b c : Fin 4, oOkF [(a.val : Int), (b.val : Int), (c.val : Int)] 0 = true → [a.val, b.val, c.val] ∈ ordsAll := by decide +kernel
theorem ords4_ : ∀ a b c d : Fin 4, oOkF [(a.val : Int), (b.val : Int), (c.val : Int), (d.val : Int)] 0 = true → [a.val, b.val, c.val, d.val] ∈ ordsAll := by decide +kernel
theorem ords5_ : ∀ a b c d : Fin 4, oOkF [(a.val : Int), (b.val : Int), (c.val : Int), (d.val : Int)] 0 = true → bor (bor (bor (bor 0 (bitN (a.val : Int))) (bitN (b.val : Int))) (bitN (c.val : Int))) (bitN (d.val : Int)) = 15 := by decide +kernel
theorem oOk_in : ∀ {os : List Int} {L : Int}, oOkF os L = true → ∀ v ∈ os, 0 ≤ v ∧ v ≤ 3
  | [], _, _, v, hv => by cases hv
  | u :: r, L, h, v, hv => by
    have h1 : ((inB u 0 3 && !tb L u.toNat) && oOkF r (bor L (bitN u))) = true := h
    rw [Bool.and_eq_true, Bool.and_eq_true] at h1
    rcases List.mem_cons.1 hv with rfl | hv
    · exact inB_iff.1 h1.1.1
    · exact oOk_in h1.2 v hv
theorem oOk_mem {os : List Int} (h : orderOk os = true) : natsOf os ∈ ordsAll ∧ nats (natsOf os) = os ∧ (∀ v ∈ os, 0 ≤ v ∧ v ≤ 3) ∧ os.length ≤ 4 := by
  have hin := oOk_in h
  have hn : nats (natsOf os) = os := by
    unfold nats natsOf
    rw [List.map_map]
    conv => rhs; rw [← List.map_id os]
    refine List.map_congr_left fun v hv => ?_
    have := hin v hv
    show ((v.toNat : Nat) : Int) = v
    omega
  unfold orderOk at h
  match os, h, hin, hn with
  | [], _, hin, hn => exact ⟨by decide, hn, hin, by decide⟩
  | [a], h, hin, hn =>
    obtain ⟨a, rfl, _⟩ := nat_three (hin a (by simp))
    exact ⟨by have := ords1_ a; simpa [natsOf] using this, hn, hin, by simp⟩
  | [a, b], h, hin, hn =>
    obtain ⟨a, rfl, _⟩ := nat_three (hin a (by simp))
    obtain ⟨b, rfl, _⟩ := nat_three (hin b (by simp))
    exact ⟨by have := ords2_ a b h; simpa [natsOf] using this, hn, hin, by simp⟩
  | [a, b, c], h, hin, hn =>
    obtain ⟨a, rfl, _⟩ := nat_three (hin a (by simp))
    obtain ⟨b, rfl, _⟩ := nat_three (hin b (by simp))
    obtain ⟨c, rfl, _⟩ := nat_three (hin c (by simp))
    exact ⟨by have := ords3_ a b c h; simpa [natsOf] using this, hn, hin, by simp⟩
  | [a, b, c, d], h, hin, hn =>
    obtain ⟨a, rfl, _⟩ := nat_three (hin a (by simp))
    obtain ⟨b, rfl, _⟩ := nat_three (hin b (by simp))
    obtain ⟨c, rfl, _⟩ := nat_three (hin c (by simp))
    obtain ⟨d, rfl, _⟩ := nat_three (hin d (by simp))
    exact ⟨by have := ords4_ a b c d h; simpa [natsOf] using this, hn, hin, by simp⟩
  | a :: b :: c :: d :: e :: r, h, hin, hn =>
    exfalso
    obtain ⟨a, rfl, _⟩ := nat_three (hin a (by simp))
    obtain ⟨b, rfl, _⟩ := nat_three (hin b (by simp))
    obtain ⟨c, rfl, _⟩ := nat_three (hin c (by simp))
    obtain ⟨d, rfl, _⟩ := nat_three (hin d (by simp))
    obtain ⟨e, rfl, _⟩ := nat_three (hin e (by simp))
    have e0 : ∀ (v : Int) (t : List Int) (L : Int), oOkF (v :: t) L = ((inB v 0 3 && !tb L v.toNat) && oOkF t (bor L (bitN v))) := fun _ _ _ => rfl
    rw [e0, e0, e0, e0, e0] at h
    simp only [Bool.and_eq_true] at h
    obtain ⟨h1, h2, h3, h4, h5, _⟩ := h
    have h6 := ords5_ a b c d (by simp only [e0, Bool.and_eq_true]; exact ⟨h1, h2, h3, h4, rfl⟩)
    rw [h6, Int.toNat_natCast] at h5
    have : ∀ e : Fin 4, tb 15 e.val = true := by decide +kernel
    rw [this e] at h5
    exact absurd h5.2 (by decide)
theorem mask_bd : ∀ (l : List Nat), (∀ v ∈ l, v ≤ 3) → ∀ m, m < 16 → l.foldl (fun m v => m ||| 2 ^ v) m < 16
  | [], _, m, hm => hm
  | v :: r, h, m, hm => by
    rw [List.foldl_cons]
    exact mask_bd r (fun u hu => h u (List.mem_cons_of_mem _ hu)) _ (or_nat hm (h v List.mem_cons_self)).2
theorem list_fine {Fs : List Fac} (h : listOk Fs = true) : Fs.length ≤ 8 ∧ (∀ F ∈ Fs, facOk 9 F = true) ∧ Fine Fs := by
  obtain ⟨h1, h2⟩ := list_parts h
  exact ⟨h1, h2, fun F hF => mB_ok (h2 F hF)⟩
theorem WidthOf_any (A Ad : Option Addr) (n c nd cd : Nat) (Fs : List Fac) (os : List Int) (w : World) (h : FLst w w.heap.size A n Fs) (hn : n ≤ maxLen) (hsm : smallF Fs) (hd : Ils w w.heap.size Ad nd os) (hnd : nd ≤ maxLen) :
    Calls Try.prog 33 #[.slice A n c, .slice Ad nd cd] w fun e w' => e = .returned (.int .i64 (widthTo Fs os)) ∧ Below w.heap.size w w' := by
  have hI := Lib.hid h
  have hD := Lib.hid hd
  have hl := h.1
  have hld := hd.1
  have cK := Lib.hid (factorsOk_any A n c Fs w h hn hsm)
  have cO := Lib.hid (fun wx hx => OrderOk_any Ad nd cd os wx hx hnd)
  clear h hn hsm hd
  cases hk : listOk Fs
  · have hR := Lib.hid (show widthTo Fs os = -1 by unfold widthTo; rw [hk]; simp)
    rw [hk] at cK
    clear hk
    go_enter Try.func33, Try.ntmps33
    go_wp2_with fail
    refine cK.out.mono ?_
    rintro e w1 ⟨rfl, hb⟩
    go_wp2_with fail
    go_ret
    exact ⟨ret_int hR.out, hb⟩
  · rw [hk] at cK
    cases ho : orderOk os
    · have hR := Lib.hid (show widthTo Fs os = -1 by unfold widthTo; rw [ho]; simp)
      rw [ho] at cO
      clear hk ho
      go_enter Try.func33, Try.ntmps33
      go_wp2_with fail
      refine cK.out.mono ?_
      rintro e w1 ⟨rfl, hb⟩
      go_wp2_with fail
      refine (cO.out _ ((hD.out.below hb).more hb.size)).mono ?_
      rintro e w' ⟨rfl, rfl⟩
      go_wp2_with fail
      go_ret
      exact ⟨ret_int hR.out, hb⟩
    · obtain ⟨h8, hf, hfine⟩ := list_fine hk
      obtain ⟨hom, hon, hoi, hol⟩ := oOk_mem ho
      have hsts := sets_sts hfine
      have hR := Lib.hid (show widthTo Fs os = (((grS (setsF Fs)).wid (natsOf os) : Nat) : Int) by unfold widthTo; rw [hk, ho]; rfl)
      have hwe := wid_eq (grS (setsF Fs)) (natsOf os) hom
      have hnl : (natsOf os).length = nd := by unfold natsOf; rw [List.length_map, hld]
      rw [hwe, hnl] at hR
      have cS := Lib.hid (fun wx hx => setsOf_any A n c Fs wx hx (by omega) hf)
      have hsl : (setsF Fs).length ≤ 8 := by unfold setsF; rw [List.length_map]; exact h8
      have hng := Lib.hid (fun (k : Nat) (d : Int) (hq : os[k]? = some d) => show (natsOf os)[k]? = some d.toNat from by unfold natsOf; rw [List.getElem?_map, hq]; rfl)
      have hn3 := Lib.hid (show ∀ v ∈ natsOf os, v ≤ 3 from fun v hv => by
        obtain ⟨x, hx, rfl⟩ := List.mem_map.1 hv
        have := hoi x hx
        omega)
      have hoi' := Lib.hid hoi
      rw [ho] at cO
      have hnd4 : nd ≤ 4 := by omega
      generalize natsOf os = ns at *
      have cW := Lib.hid (fun (As : Option Addr) (m cs : Nat) (gn v : Nat) (hg : gn < 16) (hv : v ≤ 3) wx hx hm => widthBehind_any As m cs (setsF Fs) (gn : Int) v wx hx hm hsts (by omega) hv)
      have hwb := Lib.hid (fun (gn v : Nat) => show wbS (setsF Fs) (gn : Int) v = (((grS (setsF Fs)).wP gn v : Nat) : Int) from by unfold wbS; rw [Int.toNat_natCast])
      generalize grS (setsF Fs) = gr at *
      generalize setsF Fs = ss at *
      clear hk ho hf hfine hom hon hoi hsts hwe hnl
      go_enter Try.func33, Try.ntmps33
      go_wp2_with fail
      refine cK.out.mono ?_
      rintro e w1 ⟨rfl, hb⟩
      have hb1 := Lib.hid hb
      have hI1 := Lib.hid ((hI.out.below hb).more hb.size)
      have hD1 := Lib.hid ((hD.out.below hb).more hb.size)
      clear hb
      go_wp2_with fail
      refine (cO.out _ hD1.out).mono ?_
      rintro e w' ⟨rfl, rfl⟩
      go_wp2_with fail
      refine (cS.out _ hI1.out).mono ?_
      rintro e w2 ⟨vs, rfl, hO, hb2⟩
      obtain ⟨As, csz, rfl, _, _⟩ := hO.form
      have hOl := Lib.hid (show Ils w2 w2.heap.size As ss.length ss from hO.lst)
      have hD2 := Lib.hid ((hD1.out.below hb2).more hb2.size)
      have hB2 := Lib.hid (hb1.out.trans (hb2.mono hb1.out.size))
      have hsm : ss.length ≤ maxLen := by unfold maxLen; omega
      have hsmh := Lib.hid hsm
      clear hO hb2 hsm hsl
      generalize ss.length = m at *
      go_wp2_with fail
      go_loopg [6, 7, 22] nd (fun gq o y v wr => ∃ k : Nat, k ≤ nd ∧ gq = nd - k ∧ v = .int .i64 k ∧ o = .int .i64 ((maskN (ns.take k) : Nat) : Int) ∧ y = .int .i64 ((gr.widTo ns k : Nat) : Int) ∧ wr = w2)
      case atStart => exact ⟨0, Nat.zero_le _, rfl, rfl, rfl, rfl, rfl⟩
      case round =>
        obtain ⟨k, hkn, hgn, rfl, rfl, rfl, rfl⟩ := hrel
        have hgk : gk = nd - k := hgn
        clear hgn
        by_cases hlt : k < nd
        · obtain ⟨g, off, d, rfl, hg, hd, cd⟩ := hD2.out.at_ hlt
          have hdb := hoi'.out d (List.mem_of_getElem? hd)
          obtain ⟨u, rfl, hu⟩ := nat4 hdb.1 hdb.2
          have hnk := hng.out k _ hd
          rw [Int.toNat_natCast] at hnk
          have hk0 : (0 : Int) ≤ (k : Int) := by omega
          have hk1 : (k : Int) < (nd : Int) := by omega
          have hmb : maskN (ns.take k) < 16 := mask_bd _ (fun v hv => hn3.out v (List.mem_of_mem_take hv)) 0 (by decide)
          have hmn := Lib.hid (show maskN (ns.take (k + 1)) = maskN (ns.take k) ||| 2 ^ u from by
            obtain ⟨hl9, he⟩ := List.getElem?_eq_some_iff.1 hnk
            rw [List.take_succ_eq_append_getElem hl9, mask_append, he])
          have hwn := Lib.hid (show gr.widTo ns (k + 1) = max (gr.widTo ns k) (gr.wP (maskN (ns.take k)) u) from by
            show max (gr.widTo ns k) (gr.wP (maskN (ns.take k)) (ns.getD k 0)) = _
            rw [List.getD_eq_getElem?_getD, hnk]
            rfl)
          obtain ⟨hor, _⟩ := or_nat hmb hu
          generalize maskN (ns.take k) = mm at *
          have cWk := Lib.hid (cW.out As m csz mm u hmb hu _ hOl.out hsmh.out)
          rw [hwb.out] at cWk
          have cB := Lib.hid (fun wx => bitOf_any (u : Int) wx)
          generalize gr.wP mm u = b at *
          generalize gr.widTo ns k = a at *
          clear hd hdb hnk
          go_wp2_with fail
          refine cWk.out.mono ?_
          rintro e w' ⟨rfl, rfl⟩
          go_wp2_with fail
          all_goals (refine (cB.out _).mono ?_; rintro e w' ⟨rfl, rfl⟩; go_wp2_with fail; go_roundg (nd - (k + 1)))
          all_goals first
            | (show nd - (k + 1) < gk; omega)
            | (show nd - (k + 1) < nd - k; omega)
            | exact ⟨k + 1, by omega, rfl, by go_num, by rw [hmn.out], by rw [hwn.out]; congr 1; show _ = ((max a b : Nat) : Int); omega, rfl⟩
        · obtain rfl : k = nd := by omega
          have hR' := hR.out
          clear hR
          go_wp2_with fail
          go_ret
          exact ⟨ret_int hR', hB2.out⟩
theorem BestOrder_any (A : Option Addr) (n c : Nat) (Fs : List Fac) (w : World) (h : FLst w w.heap.size A n Fs) (hn : n ≤ maxLen) (hsm : smallF Fs) :
    Calls Try.prog 35 #[.slice A n c] w (Lbd w (bestTo Fs) (listOk Fs)) := by
  have hI := Lib.hid h
  have hl := h.1
  have cK := Lib.hid (factorsOk_any A n c Fs w h hn hsm)
  clear h hn hsm
  cases hk : listOk Fs
  · have hT : bestTo Fs = [] := by unfold bestTo; rw [hk]; rfl
    rw [hT]
    rw [hk] at cK
    clear hk hT
    go_enter Try.func35, Try.ntmps35
    go_wp2_with fail
    refine cK.out.mono ?_
    rintro e w1 ⟨rfl, hb⟩
    go_wp2_with fail
    go_ret2
    exact ⟨_, rfl, IOwn.nil _ _, hb⟩
  · have hT : bestTo Fs = nats ((grS (setsF Fs)).ord ((grS (setsF Fs)).lst 15) 4) := by unfold bestTo; rw [hk]; rfl
    rw [hT]
    rw [hk] at cK
    obtain ⟨h8, hf, hfine⟩ := list_fine hk
    have hsts := sets_sts hfine
    have hsl : (setsF Fs).length ≤ 8 := by unfold setsF; rw [List.length_map]; exact h8
    have cS := Lib.hid (fun wx hx => setsOf_any A n c Fs wx hx (by omega) hf)
    have cL := Lib.hid (fun (As : Option Addr) (m cs : Nat) wx hx hm => leastWidths_any As m cs (setsF Fs) wx hx hm hsts)
    have cO := Lib.hid (fun (As : Option Addr) (m c : Nat) (cs : Array Value) (ls : List Nat) wx hx hm hc => orderBy_any As m c (setsF Fs) cs ls wx hx hm hsts hc)
    generalize grS (setsF Fs) = gr at *
    generalize setsF Fs = ss at *
    clear hk hT hf hfine hsts
    go_enter Try.func35, Try.ntmps35
    go_wp2_with fail
    refine cK.out.mono ?_
    rintro e w1 ⟨rfl, hb⟩
    have hI1 := Lib.hid ((hI.out.below hb).more hb.size)
    have hbh := Lib.hid hb
    clear hb
    go_wp2_with fail
    refine (cS.out _ hI1.out).mono ?_
    rintro e w2 ⟨vs, rfl, hO, hb2⟩
    obtain ⟨As, csz, rfl, _, _⟩ := hO.form
    have hOl := Lib.hid (show Ils w2 w2.heap.size As ss.length ss from hO.lst)
    have hB2 := Lib.hid (hbh.out.trans (hb2.mono hbh.out.size))
    have hsm := Lib.hid (show ss.length ≤ maxLen by unfold maxLen; omega)
    clear hO hb2 hsl
    generalize ss.length = m at *
    go_wp2_with fail
    refine (cL.out As m csz _ hOl.out hsm.out).mono ?_
    rintro e w3 ⟨cs, rfl, hA, hb3⟩
    have hOl3 := Lib.hid ((hOl.out.below hb3).more hb3.size)
    have hB3 := Lib.hid (hB2.out.trans (hb3.mono hB2.out.size))
    have hAh := Lib.hid hA
    clear hb3 hA
    go_wp2_with fail
    refine (cO.out As m csz cs _ _ hOl3.out hsm.out hAh.out).mono ?_
    rintro e w4 ⟨v, rfl, hV, hb4⟩
    have hB4 := Lib.hid (hB3.out.trans (hb4.mono hB3.out.size))
    have hVh := Lib.hid (show IOwn w4 w.heap.size v _ from owns_le hV hB3.out.size)
    clear hb4 hV
    go_wp2_with fail
    go_ret2
    exact ⟨_, rfl, hVh.out, hB4.out⟩
theorem wpList_build_ {ops : Array Oper} {rest : List Oper} {op : Oper} {a : Act} {w : World} {Q : Exit → Act → World → Prop} (hgd : op.guard = none) (t : TypeId) (parts : Array (Nat × Operand)) (ho : op.op = .build t parts)
    (v : Value) (hr : (Instr.build t (parts.map fun p => (p.1, a.eval p.2))).run Try.prog w = .ok v w)
    (h : wpList Try.prog ops Q rest (a.put op.dst v) w) : wpList Try.prog ops Q (op :: rest) a w :=
  wpList_plain hgd fun K hK => by
    unfold Oper.wp execOp
    simp only [ho, Sem.run_bind, Sem.run_pure, Result.andThen_ok, hr]
    exact hK _ _ h
theorem GreedyOrder_any (A : Option Addr) (n c : Nat) (Fs : List Fac) (w : World) (h : FLst w w.heap.size A n Fs) (hn : n ≤ maxLen) (hsm : smallF Fs) :
    Calls Try.prog 38 #[.slice A n c] w (Lbd w (greedyTo Fs) (listOk Fs)) := by
  have hI := Lib.hid h
  have hl := h.1
  have cK := Lib.hid (factorsOk_any A n c Fs w h hn hsm)
  clear h hn hsm
  cases hk : listOk Fs
  · have hT : greedyTo Fs = [] := by unfold greedyTo; rw [hk]; rfl
    rw [hT]
    rw [hk] at cK
    clear hk hT
    go_enter Try.func38, Try.ntmps38
    go_wp2_with fail
    refine cK.out.mono ?_
    rintro e w1 ⟨rfl, hb⟩
    go_wp2_with fail
    go_ret2
    exact ⟨_, rfl, IOwn.nil _ _, hb⟩
  · have hT : greedyTo Fs = nats ((grS (setsF Fs)).ord (zN 16) 4) := by unfold greedyTo; rw [hk]; rfl
    rw [hT]
    rw [hk] at cK
    obtain ⟨h8, hf, hfine⟩ := list_fine hk
    have hsts := sets_sts hfine
    have hsl : (setsF Fs).length ≤ 8 := by unfold setsF; rw [List.length_map]; exact h8
    have cS := Lib.hid (fun wx hx => setsOf_any A n c Fs wx hx (by omega) hf)
    have hA0 := ArrN.zero
    have hbs : ∀ wx : World, (Instr.build 88 #[]).run Try.prog wx = .ok (.agg (List.toArray (List.replicate 16 (.int .i64 0)))) wx := fun wx => by kernel_rfl
    generalize List.toArray (List.replicate 16 (Value.int .i64 0)) = zc at hA0 hbs
    have hbs' := Lib.hid hbs
    have hAh := Lib.hid hA0
    have cO := Lib.hid (fun (As : Option Addr) (m c : Nat) wx hx hm => orderBy_any As m c (setsF Fs) zc (zN 16) wx hx hm hsts hAh.out)
    generalize grS (setsF Fs) = gr at *
    generalize setsF Fs = ss at *
    clear hk hT hf hfine hsts hbs hA0
    go_enter Try.func38, Try.ntmps38
    go_wp2_with fail
    refine cK.out.mono ?_
    rintro e w1 ⟨rfl, hb⟩
    have hI1 := Lib.hid ((hI.out.below hb).more hb.size)
    have hbh := Lib.hid hb
    clear hb
    go_wp2_with fail
    refine (cS.out _ hI1.out).mono ?_
    rintro e w2 ⟨vs, rfl, hO, hb2⟩
    obtain ⟨As, csz, rfl, _, _⟩ := hO.form
    have hOl := Lib.hid (show Ils w2 w2.heap.size As ss.length ss from hO.lst)
    have hB2 := Lib.hid (hbh.out.trans (hb2.mono hbh.out.size))
    have hsm := Lib.hid (show ss.length ≤ maxLen by unfold maxLen; omega)
    clear hO hb2 hsl
    generalize ss.length = m at *
    go_wp2_with (first | (refine wpList_build_ rfl 88 #[] rfl (.agg zc) (by have h9 := hbs'.out w2; simpa [Act.eval] using h9) ?_))
    refine (cO.out As m csz _ hOl.out hsm.out).mono ?_
    rintro e w4 ⟨v, rfl, hV, hb4⟩
    have hB4 := Lib.hid (hB2.out.trans (hb4.mono hB2.out.size))
    have hVh := Lib.hid (show IOwn w4 w.heap.size v _ from owns_le hV hB2.out.size)
    clear hb4 hV
    go_wp2_with fail
    go_ret2
    exact ⟨_, rfl, hVh.out, hB4.out⟩
end Go.Proofs.Ytaipdkfbkcknkaa
