/- Parts of the proof: FB. -/
import Derived.Test.YtghkpmafocacoaaZAE
import Derived.Test.YtghkpmafocacoaaZAC
namespace Go.Proofs.Ytghkpmafocacoaa
set_option maxRecDepth 100000
set_option linter.unusedVariables false
open Go.RowKit
/-- The variables of a set below one. -/
def overT (L : Int) (k : Nat) : List Int := ((List.range k).filter fun v => tb L v).map fun (v : Nat) => (v : Int)
theorem overT_succ (L : Int) (k : Nat) : overT L (k + 1) = overT L k ++ if tb L k = true then [(k : Int)] else [] := by
  unfold overT
  rw [List.range_succ, List.filter_append, List.map_append]
  congr 1
  cases h : tb L k
  · rw [List.filter_cons_of_neg (by simp [h])]; rfl
  · rw [List.filter_cons_of_pos (by simp [h])]; rfl
theorem overT_len (L : Int) (k : Nat) : (overT L k).length ≤ k := by
  unfold overT
  rw [List.length_map]
  exact Nat.le_trans (List.length_filter_le _ _) (by rw [List.length_range]; exact Nat.le_refl _)
theorem shr1_allF : ∀ n : Fin 16, ∀ k : Fin 4, (((n.val : Int) / 2 ^ k.val).tmod 2 == 1) = tb (n.val : Int) k.val := by decide +kernel
theorem shr1_tbF {L : Int} (hL : 0 ≤ L ∧ L ≤ 15) {k : Nat} (hk : k ≤ 3) : ((L / 2 ^ k).tmod 2 == 1) = tb L k := by
  obtain ⟨n, rfl⟩ := fin16 hL
  exact shr1_allF n ⟨k, by omega⟩
theorem l8Over_any (L : Int) (w : World) (hL : 0 ≤ L ∧ L ≤ 15) :
    Calls Try.prog 88 #[.int .i64 L] w (Wtsd w (over L)) := by
  have hB0 : Below w.heap.size w (w.alloc (.cells #[] 3)) := (Below.refl _ _).alloc (Nat.le_refl _) _
  have hN := Lib.hid (show IOwn (w.alloc (.cells #[] 3)) w.heap.size (.slice (some ⟨w.heap.size, 0, none⟩) 0 0) [] from
    ⟨rfl, .inr ⟨w.heap.size, 0, #[], rfl, Nat.le_refl _, Has.new w _ _, Nat.le_refl _, Nat.zero_le _, rfl, rfl⟩⟩)
  obtain ⟨i0, hi0, hz0, hz1', hz2'⟩ := info_parts info_int
  go_enter Try.func88, Try.ntmps88
  go_wp2_with fail
  go_loopg [3, 4] 4 (fun gn o v wr => ∃ k : Nat, k ≤ 4 ∧ gn = 4 - k ∧ v = .int .i64 k ∧ IOwn wr w.heap.size o (overT L k) ∧ Below w.heap.size w wr)
  case atStart => exact ⟨0, Nat.zero_le _, rfl, rfl, hN.out, hB0⟩
  case round =>
    obtain ⟨k, hk, hgn, rfl, hO, hb⟩ := hrel
    have hgk : gk = 4 - k := hgn
    obtain ⟨Ao, co, hvo, _, _⟩ := hO.form
    subst hvo
    have hz := hb.size
    have hOh := Lib.hid hO
    have hbh := Lib.hid hb
    have hol := overT_len L k
    clear hgn hO hb
    by_cases hlt : k < 4
    · have hsh := shr1_tbF hL (show k ≤ 3 by omega)
      have hst := Lib.hid (overT_succ L k)
      have hk0 : (0 : Int) ≤ (k : Int) := by omega
      have hk64 : (k : Int) ≤ 64 := by omega
      cases ht : tb L k
      · rw [ht] at hsh
        have hR := Lib.hid (show overT L (k + 1) = overT L k by rw [hst.out, ht, if_neg (by decide), List.append_nil])
        clear ht
        go_wp2_with fail
        go_roundg (4 - (k + 1))
        case measure => omega
        case rel => exact ⟨k + 1, by omega, rfl, by go_num, by rw [hR.out]; exact hOh.out, hbh.out⟩
      · rw [ht] at hsh
        have hR := Lib.hid (show overT L (k + 1) = overT L k ++ [(k : Int)] by rw [hst.out, ht, if_pos rfl])
        have hO3 := Lib.hid (hOh.out.alloc (.cells #[.int .i64 k] 3))
        have hnw := Lib.hid (new_one wr (.int .i64 k) 3)
        have hB3 := Lib.hid (hbh.out.alloc hz (.cells #[.int .i64 k] 3))
        clear ht
        go_wp2_with (at_builtin; refine wpList_append_lies _ rfl (.tmp 15) (.tmp 17) 31 rfl w.heap.size 3 i0 _ 1 8 Try.underlying31 hi0 hz0 hz1' hz2' rfl (by decide) (.slice Ao (overT L k).length co) (overT L k).length (ints (overT L k)) rfl (by exact hO3.out) ⟨wr.heap.size, 0, none⟩ 1 1 [.int .i64 k] rfl rfl (by exact hnw.out) (by simp [Value.oneCell']) (by omega) (by unfold maxLen; omega) (by omega) (by exact hB3.out.size) (wr.heap.size + 1) (by simp) ?_; intro gr cr2 w4 hown4 hgrow4 hat4 hlt4)
        have hF := Lib.hid (IOwn.append_ (news := [(k : Int)]) hO3.out hown4 hgrow4 hB3.out (by exact hB3.out.size))
        clear hown4 hgrow4 hat4
        go_wp2_with fail
        go_roundg (4 - (k + 1))
        case measure => omega
        case rel => exact ⟨k + 1, by omega, rfl, by go_num, by rw [hR.out]; exact hF.out.1, hF.out.2⟩
    · obtain rfl : k = 4 := by omega
      have hF := Lib.hid (show Wtsd w (over L) (.returned (.slice Ao (overT L 4).length co)) wr from ⟨_, rfl, hOh.out, hbh.out⟩)
      clear hOh hbh
      go_wp2_with fail
      go_ret
      exact hF.out
theorem p3_pow : ∀ k : Nat, p3 k = ((3 ^ k : Nat) : Int)
  | 0 => rfl
  | k + 1 => by
    rw [Nat.pow_succ, Int.natCast_mul, ← p3_pow k]; rfl
theorem l1Power_four (n : Nat) (h : n ≤ 4) (w : World) :
    Calls Try.prog 79 #[.int .i64 n] w fun e w' => e = .returned (.int .i64 ((3 ^ n : Nat) : Int)) ∧ w = w' := by
  have hR := Lib.hid (p3_pow n)
  go_enter Try.func79, Try.ntmps79
  go_wp2
  go_loop [3, 4] (fun o i => ∃ k : Nat, k ≤ n ∧ i = .int .i64 k ∧ o = .int .i64 (p3 k)) (fun _ i => n - (intOf i).toNat)
  case atStart => exact ⟨0, Nat.zero_le _, rfl, rfl⟩
  case round =>
    obtain ⟨k, hk, rfl, rfl⟩ := hrel
    by_cases hlt : k < n
    · have hb := p3_bd3 k (by omega)
      go_wp2
      go_round
      case rel => exact ⟨k + 1, by omega, by go_num, rfl⟩
      case measure => simp [intOf]; omega
    · obtain rfl : k = n := by omega
      go_wp2
      go_ret
      exact ⟨ret_int hR.out.symm, rfl⟩
/-- A factor as it is handed over. -/
def fv (A1 : Option Addr) (n1 c1 : Nat) (A2 : Option Addr) (n2 c2 : Nat) : Value := .agg #[.slice A1 n1 c1, .slice A2 n2 c2]
def FacW (w : World) (B : Nat) (A1 : Option Addr) (n1 : Nat) (A2 : Option Addr) (n2 : Nat) (F : Fac) : Prop := Ils w B A1 n1 F.vs ∧ Ils w B A2 n2 F.ns
theorem FacW.below {w w' : World} {A1 A2 : Option Addr} {n1 n2 : Nat} {F : Fac} (h : FacW w w.heap.size A1 n1 A2 n2 F) (hb : Below w.heap.size w w') : FacW w' w'.heap.size A1 n1 A2 n2 F := ⟨(h.1.below hb).more hb.size, (h.2.below hb).more hb.size⟩
theorem l8Index_any (A1 A2 : Option Addr) (n1 c1 n2 c2 : Nat) (F : Fac) (st : Int) (w : World) (h : FacW w w.heap.size A1 n1 A2 n2 F) (hn : n1 ≤ 4) (hv : ∀ v ∈ F.vs, 0 ≤ v ∧ v ≤ 3) (hs : 0 ≤ st ∧ st ≤ 80) :
    Calls Try.prog 173 #[.agg #[.slice A1 n1 c1, .slice A2 n2 c2], .int .i64 st] w fun e w' => e = .returned (.int .i64 (idx F.vs st)) ∧ Below w.heap.size w w' := by
  have hl := h.1.1
  have hB0 : Below w.heap.size w (w.alloc (.cells #[.slice A1 n1 c1, .slice A2 n2 c2] 56)) := (Below.refl _ _).alloc (Nat.le_refl _) _
  have hI := Lib.hid ((h.below hB0).1)
  have hH := Lib.hid (Has.new w 56 #[.slice A1 n1 c1, .slice A2 n2 c2])
  have hV := Lib.hid hv
  have hB := Lib.hid hB0
  clear h hv hB0
  go_enter Try.func173, Try.ntmps173
  go_wp2_with fail
  generalize w.alloc (.cells #[.slice A1 n1 c1, .slice A2 n2 c2] 56) = W0 at hI hH hB ⊢
  generalize hG : w.heap.size = G at hH ⊢
  have hc0 := hH.out.cell
  go_loopg [5, 6] n1 (fun gn o v wr => ∃ k : Nat, k ≤ n1 ∧ gn = k ∧ v = .int .i64 ((k : Int) - 1) ∧ o = .int .i64 (idx (F.vs.drop k) st) ∧ wr = W0)
  case atStart => exact ⟨n1, Nat.le_refl _, rfl, by go_num, by rw [List.drop_eq_nil_of_le (by omega)]; rfl, rfl⟩
  case round =>
    obtain ⟨k, hk, hgn, rfl, rfl, rfl⟩ := hrel
    have hgk : gk = k := hgn
    clear hgn
    by_cases hk0 : 0 < k
    · obtain ⟨j, rfl⟩ : ∃ j, k = j + 1 := ⟨k - 1, by omega⟩
      have e1 : ((j + 1 : Nat) : Int) - 1 = (j : Int) := by omega
      rw [e1]
      obtain ⟨g, off, d, rfl, hg, hd, c0⟩ := hI.out.at_ (k := j) (by omega)
      have hdb := hV.out d (List.mem_of_getElem? hd)
      have hdr : F.vs.drop j = d :: F.vs.drop (j + 1) := by
        rw [List.drop_eq_getElem_cons (by omega), (List.getElem?_eq_some_iff.1 hd).2]
      have hR := Lib.hid (show idx (F.vs.drop j) st = 3 * idx (F.vs.drop (j + 1)) st + valueAt st d by rw [hdr]; rfl)
      have hib := idx_bd (vs := F.vs.drop (j + 1)) (fun v hx => hV.out v (List.mem_of_mem_drop hx)) hs
      have hp4 := pow_four (n := (F.vs.drop (j + 1)).length) (by rw [List.length_drop]; omega)
      have hvb := value_bd hs hdb
      have cA := Lib.hid (fun wx => l1At_v st d wx hs hdb)
      have hj0 : (0 : Int) ≤ (j : Int) := by omega
      have hj1 : (j : Int) < (n1 : Int) := by omega
      generalize idx (F.vs.drop (j + 1)) st = q at hR hib ⊢
      generalize valueAt st d = y at hR hvb cA
      have hw1 : IntKind.i64.wrap (3 * q) = 3 * q := by rw [IntKind.wrap_i64]; omega
      have hw2 : IntKind.i64.wrap (3 * q + y) = 3 * q + y := by rw [IntKind.wrap_i64]; omega
      clear hd hdb hdr
      go_wp2_with fail
      refine (cA.out _).mono ?_
      rintro e w' ⟨rfl, rfl⟩
      go_wp2_with fail
      go_roundg j
      case measure => omega
      case rel => exact ⟨j, by omega, rfl, by go_num, by rw [hR.out], rfl⟩
    · obtain rfl : k = 0 := by omega
      go_wp2_with fail
      go_ret
      exact ⟨rfl, hB.out⟩
theorem fAt_get {F : Fac} (hl : F.ns.length = 3 ^ F.vs.length) (hv : ∀ v ∈ F.vs, 0 ≤ v ∧ v ≤ 3) {st : Int} (hs : 0 ≤ st ∧ st ≤ 80) : ∃ q : Nat, idx F.vs st = (q : Int) ∧ q < F.ns.length ∧ F.ns[q]? = some (fAt F st) := by
  have hb := idx_bd hv hs
  refine ⟨(idx F.vs st).toNat, by omega, by omega, ?_⟩
  unfold fAt
  rw [List.getD_eq_getElem?_getD, List.getElem?_eq_getElem (by omega)]
  rfl
set_option maxHeartbeats 1000000 in
theorem l8At_any (A1 A2 : Option Addr) (n1 c1 n2 c2 : Nat) (F : Fac) (st : Int) (w : World) (h : FacW w w.heap.size A1 n1 A2 n2 F) (hn : n1 ≤ 4) (hl2 : F.ns.length = 3 ^ F.vs.length) (hv : ∀ v ∈ F.vs, 0 ≤ v ∧ v ≤ 3) (hs : 0 ≤ st ∧ st ≤ 80) :
    Calls Try.prog 145 #[.agg #[.slice A1 n1 c1, .slice A2 n2 c2], .int .i64 st] w fun e w' => e = .returned (.int .i64 (fAt F st)) ∧ Below w.heap.size w w' := by
  have hB0 : Below w.heap.size w (w.alloc (.cells #[.slice A1 n1 c1, .slice A2 n2 c2] 56)) := (Below.refl _ _).alloc (Nat.le_refl _) _
  have hF := Lib.hid (h.below hB0)
  have hH := Lib.hid (Has.new w 56 #[.slice A1 n1 c1, .slice A2 n2 c2])
  have hB := Lib.hid hB0
  obtain ⟨q, hq, hqn, hd⟩ := fAt_get hl2 hv hs
  have hn2 : F.ns.length = n2 := h.2.1
  have cI := Lib.hid (fun wx hx => l8Index_any A1 A2 n1 c1 n2 c2 F st wx hx hn hv hs)
  rw [hq] at cI
  clear h hB0 hv
  obtain ⟨g2, o2, d, rfl, hg2, hd2, cd⟩ := hF.out.2.at_ (k := q) (by omega)
  obtain rfl : d = fAt F st := by rw [hd] at hd2; injection hd2 with e; exact e.symm
  have hq0 : (0 : Int) ≤ (q : Int) := by omega
  have hq1 : (q : Int) < (n2 : Int) := by omega
  generalize fAt F st = d at *
  go_enter Try.func145, Try.ntmps145
  go_wp2_with fail
  generalize w.alloc (.cells #[.slice A1 n1 c1, .slice (some ⟨g2, o2, none⟩) n2 c2] 56) = W0 at hF hH hB hg2 cd ⊢
  generalize hG : w.heap.size = G at hH ⊢
  have hOk := Lib.hid (fun (wx : World) (hx : Below W0.heap.size W0 wx) => (show Below W0.heap.size W0 wx ∧ wx.cell? ⟨G, 0, none⟩ = some (.slice A1 n1 c1) ∧ wx.cell? ⟨G, 1, none⟩ = some (.slice (some ⟨g2, o2, none⟩) n2 c2) ∧ wx.cell? ⟨g2, o2 + q, none⟩ = some (.int .i64 d) from ⟨hx, (hH.out.kept hx).cell 0, (hH.out.kept hx).cell 1, (hx.cell (p := ⟨g2, o2 + q, none⟩) hg2).trans cd⟩))
  go_region_held3 (fun wx => Below W0.heap.size W0 wx ∧ wx.cell? ⟨G, 0, none⟩ = some (.slice A1 n1 c1) ∧ wx.cell? ⟨G, 1, none⟩ = some (.slice (some ⟨g2, o2, none⟩) n2 c2) ∧ wx.cell? ⟨g2, o2 + q, none⟩ = some (.int .i64 d)) (first | exact hOk.out _ ((Below.refl _ _).drew) | exact hOk.out _ (bt6 (by assumption) hbq) | exact hOk.out _ (bs6 (by assumption)) | exact hOk.out _ (bd6 (by assumption)) | go_keep) (first | (go_at_call 173; refine (cI.out _ (hF.out.below (And.left (by assumption)))).mono ?_; rintro e q ⟨rfl, hbq⟩))
  rename_i hHeld
  have hB6 := Lib.hid (hB.out.trans (hHeld.1.mono hB.out.size))
  clear hHeld hbq
  go_wp2_with fail
  go_ret
  exact ⟨rfl, hB6.out⟩
theorem facOk_no {F : Fac} {M : Int} {k : Nat} (hk : k < F.vs.length) (h : vOkAt F.vs k = false) : facOk M F = false := by
  unfold facOk
  rw [show varsOk F.vs = false from ?_, Bool.false_and]
  cases hv : varsOk F.vs
  · rfl
  · have := List.all_eq_true.1 hv k (List.mem_range.2 hk)
    rw [h] at this
    cases this
theorem facOk_no2 {F : Fac} {M : Int} {k : Nat} {d : Int} (hd : F.ns[k]? = some d) (h : inB d 0 M = false) : facOk M F = false := by
  unfold facOk
  rw [show numsOk M F.ns = false from ?_, Bool.false_and, Bool.and_false]
  cases hv : numsOk M F.ns
  · rfl
  · have := List.all_eq_true.1 hv d (List.mem_of_getElem? hd)
    rw [h] at this
    cases this
theorem vars_all {vs : List Int} (h : ∀ i, i < vs.length → vOkAt vs i = true) : varsOk vs = true := List.all_eq_true.2 fun i hi => h i (List.mem_range.1 hi)
theorem vars_len {vs : List Int} (h : varsOk vs = true) : vs.length ≤ 4 ∧ ∀ v ∈ vs, 0 ≤ v ∧ v ≤ 3 := by
  refine ⟨?_, fun v hv => ?_⟩
  · obtain ⟨L, rfl⟩ := vars_over h
    exact (over_ok L).2.2
  · obtain ⟨i, hi, rfl⟩ := List.getElem_of_mem hv
    have := (vars_five h i hi).1
    unfold vAt at this
    rwa [List.getD_eq_getElem?_getD, List.getElem?_eq_getElem hi] at this
set_option maxHeartbeats 4000000 in
theorem l8Factor_any (A1 A2 : Option Addr) (n1 c1 n2 c2 : Nat) (F : Fac) (M : Int) (w : World) (h : FacW w w.heap.size A1 n1 A2 n2 F) (hn1 : n1 ≤ maxLen) (hn2 : n2 ≤ maxLen) :
    Calls Try.prog 172 #[.agg #[.slice A1 n1 c1, .slice A2 n2 c2], .int .i64 M] w fun e w' => e = .returned (.bool (facOk M F)) ∧ Below w.heap.size w w' := by
  have hB0 : Below w.heap.size w (w.alloc (.cells #[.slice A1 n1 c1, .slice A2 n2 c2] 56)) := (Below.refl _ _).alloc (Nat.le_refl _) _
  have hl1 := h.1.1
  have hl2 := h.2.1
  have hF := Lib.hid (h.below hB0)
  have hH := Lib.hid (Has.new w 56 #[.slice A1 n1 c1, .slice A2 n2 c2])
  have hB := Lib.hid hB0
  unfold maxLen at hn1 hn2
  clear h hB0
  go_enter Try.func172, Try.ntmps172
  go_wp2_with fail
  generalize w.alloc (.cells #[.slice A1 n1 c1, .slice A2 n2 c2] 56) = W0 at hF hH hB ⊢
  generalize hG : w.heap.size = G at hH ⊢
  have hc0 := hH.out.cell
  have hvd := Lib.hid (fun i (hi : i < n1) => show vAt F.vs i = F.vs[i]'(by omega) from by unfold vAt; rw [List.getD_eq_getElem?_getD, List.getElem?_eq_getElem (by omega)]; rfl)
  have hEnd := Lib.hid (fun m => hB.out.trans ((below_drewN (Below.refl W0.heap.size W0) m).mono hB.out.size))
  go_loopg [5] n1 (fun gn v wr => ∃ k : Nat, k ≤ n1 ∧ gn = n1 - k ∧ v = .int .i64 k ∧ (∀ i, i < k → vOkAt F.vs i = true) ∧ ∃ m, wr = W0.drewN m)
  case atStart => exact ⟨0, Nat.zero_le _, rfl, rfl, fun i hi => absurd hi (by omega), 0, rfl⟩
  case round =>
    obtain ⟨k, hk, hgn, rfl, hno, m, rfl⟩ := hrel
    have hgk : gk = n1 - k := hgn
    clear hgn
    have hNo := Lib.hid hno
    clear hno hc0
    have hcm := (hH.out.drewN m).cell
    by_cases hlt : k < n1
    · obtain ⟨g, off, d, rfl, hg, hd, cd⟩ := hF.out.1.at_ hlt
      have cd' : (W0.drewN m).cell? ⟨g, off + k, none⟩ = some (.int .i64 d) := cd
      have hk0 : (0 : Int) ≤ (k : Int) := by omega
      have hk1 : (k : Int) < (n1 : Int) := by omega
      have hvk := hvd.out k hlt
      rw [(List.getElem?_eq_some_iff.1 hd).2] at hvk
      have cV := Lib.hid (fun (wx : World) => (l1Var_any d wx).mono fun _ _ h => (show _ ∧ _ = wx from ⟨h.1, h.2.symm⟩))
      have hEm := Lib.hid (hEnd.out m)
      obtain ⟨Wq, hWq⟩ : ∃ Wq, W0.drewN m = Wq := ⟨_, rfl⟩
      rw [hWq] at cd' hcm hEm ⊢
      have hWh := Lib.hid hWq
      clear cd hd hWq
      cases hin : inB d 0 3
      · have hR := Lib.hid (facOk_no (M := M) (k := k) (by omega) (show vOkAt F.vs k = false by unfold vOkAt; rw [hvk, hin]; rfl))
        rw [hin] at cV
        clear hin
        go_wp2_with fail
        go_quiet (first | (go_at_call 66; exact Calls.quiet_of_same (cV.out _)))
        go_wp2_with fail
        go_ret
        exact ⟨ret_bool hR.out, below_drewN hEm.out _⟩
      · rw [hin] at cV
        by_cases hk00 : k = 0
        · have hO := Lib.hid (show vOkAt F.vs k = true by unfold vOkAt; rw [hvk, hin, decide_eq_true hk00]; rfl)
          subst hk00
          have cd2 : Wq.cell? ⟨g, off, none⟩ = some (.int .i64 d) := cd'
          clear hin
          go_wp2_with fail
          go_quiet (first | (go_at_call 66; exact Calls.quiet_of_same (cV.out _)))
          go_wp2_with fail
          go_roundg (n1 - (0 + 1))
          case measure => omega
          case rel => exact ⟨0 + 1, by omega, rfl, by go_num, fun i hi => by
            by_cases he : i = 0
            · rw [he]; exact hO.out
            · exact hNo.out i (by omega), _, by rw [← hWh.out, World.drewN_drewN]⟩
        · obtain ⟨j, rfl⟩ : ∃ j, k = j + 1 := ⟨k - 1, by omega⟩
          obtain ⟨g', off', p, he, _, hp, cp⟩ := hF.out.1.at_ (k := j) (by omega)
          obtain ⟨rfl, rfl⟩ : g = g' ∧ off = off' := by injection he with e; injection e with e1 e2 _; exact ⟨e1, e2⟩
          have cp' : Wq.cell? ⟨g, off + j, none⟩ = some (.int .i64 p) := by rw [← hWh.out]; exact cp
          have hvj := hvd.out j (by omega)
          rw [(List.getElem?_eq_some_iff.1 hp).2] at hvj
          have hkt : (0 : Int) < ((j + 1 : Nat) : Int) := by omega
          have hks : IntKind.i64.wrap (((j + 1 : Nat) : Int) - 1) = (j : Int) := by rw [IntKind.wrap_i64]; omega
          have hj0 : (0 : Int) ≤ (j : Int) := by omega
          have hj1 : (j : Int) < (n1 : Int) := by omega
          clear he hp cp
          by_cases hpd : d ≤ p
          · have hR := Lib.hid (facOk_no (M := M) (k := j + 1) (by omega) (show vOkAt F.vs (j + 1) = false by unfold vOkAt; rw [Nat.add_sub_cancel, hvk, hvj, hin, decide_eq_false (by omega), decide_eq_false (by omega)]; rfl))
            clear hin
            go_wp2_with fail
            go_quiet (first | (go_at_call 66; exact Calls.quiet_of_same (cV.out _)))
            go_wp2_with fail
            go_ret
            exact ⟨ret_bool hR.out, below_drewN hEm.out _⟩
          · have hO := Lib.hid (show vOkAt F.vs (j + 1) = true by unfold vOkAt; rw [Nat.add_sub_cancel, hvk, hvj, hin, decide_eq_true (show p < d by omega), Bool.or_true]; rfl)
            clear hin
            go_wp2_with fail
            go_quiet (first | (go_at_call 66; exact Calls.quiet_of_same (cV.out _)))
            go_wp2_with fail
            go_roundg (n1 - (j + 1 + 1))
            case measure => omega
            case rel => exact ⟨j + 1 + 1, by omega, rfl, by go_num, fun i hi => by
              by_cases he : i = j + 1
              · rw [he]; exact hO.out
              · exact hNo.out i (by omega), _, by rw [← hWh.out, World.drewN_drewN]⟩
    · obtain rfl : k = n1 := by omega
      have hvo := Lib.hid (vars_all fun i hi => hNo.out i (by omega))
      have hvl := vars_len hvo.out
      have hk4 : k ≤ 4 := by omega
      clear hvl
      go_wp2_with fail
      go_loopg [6] n2 (fun gn v wr => ∃ i : Nat, i ≤ n2 ∧ gn = n2 - i ∧ v = .int .i64 i ∧ (∀ (j : Nat) d, j < i → F.ns[j]? = some d → inB d 0 M = true) ∧ ∃ m, wr = W0.drewN m)
      case atStart => exact ⟨0, Nat.zero_le _, rfl, rfl, fun j d hj => absurd hj (by omega), m, rfl⟩
      case round =>
        obtain ⟨i, hi, hgn, rfl, hin, m, rfl⟩ := hrel
        have hgi : gk = n2 - i := hgn
        clear hgn
        have hIn := Lib.hid hin
        clear hin hcm
        have hcm := (hH.out.drewN m).cell
        by_cases hli : i < n2
        · obtain ⟨g, off, d, rfl, hg, hd, cd⟩ := hF.out.2.at_ hli
          have cd' : (W0.drewN m).cell? ⟨g, off + i, none⟩ = some (.int .i64 d) := cd
          have hi0 : (0 : Int) ≤ (i : Int) := by omega
          have hi1 : (i : Int) < (n2 : Int) := by omega
          have cI := Lib.hid (fun wx => l1In_any d 0 M wx)
          have hdh := Lib.hid hd
          clear cd hd
          cases hdi : inB d 0 M
          · have hR := Lib.hid (facOk_no2 (M := M) hdh.out hdi)
            rw [hdi] at cI
            clear hdi
            go_wp2_with fail
            refine (cI.out _).mono ?_
            rintro e w' ⟨rfl, rfl⟩
            go_wp2_with fail
            go_ret
            exact ⟨ret_bool hR.out, hEnd.out m⟩
          · rw [hdi] at cI
            have hO := Lib.hid hdi
            clear hdi
            go_wp2_with fail
            refine (cI.out _).mono ?_
            rintro e w' ⟨rfl, rfl⟩
            go_wp2_with fail
            go_roundg (n2 - (i + 1))
            case measure => omega
            case rel => exact ⟨i + 1, by omega, rfl, by go_num, fun j y hj hy => by
              by_cases he : j = i
              · subst he
                rw [Option.some.inj (hy.symm.trans hdh.out)]
                exact hO.out
              · exact hIn.out j y (by omega) hy, m, rfl⟩
        · obtain rfl : i = n2 := by omega
          have hno : numsOk M F.ns = true := List.all_eq_true.2 fun y hy => by
            obtain ⟨j, hj, rfl⟩ := List.getElem_of_mem hy
            exact hIn.out j _ (by omega) (List.getElem?_eq_getElem hj)
          have hR := Lib.hid (show facOk M F = ((i : Int) == 3 ^ k) by
            have e : ((3 ^ k : Nat) : Int) = 3 ^ k := Int.natCast_pow 3 k
            unfold facOk
            rw [hvo.out, hno, hl1, hl2, Bool.true_and, Bool.true_and, Bool.eq_iff_iff, decide_eq_true_eq, beq_iff_eq, ← e]
            constructor
            · intro h; rw [h]
            · intro h; omega)
          have cP := Lib.hid (fun (wx : World) => (l1Power_four k hk4 wx).mono fun _ _ h => (show _ ∧ _ = wx from ⟨h.1, h.2.symm⟩))
          have hEm := Lib.hid (hEnd.out m)
          obtain ⟨Wq, hWq⟩ : ∃ Wq, W0.drewN m = Wq := ⟨_, rfl⟩
          rw [hWq] at hcm hEm ⊢
          go_wp2_with fail
          go_quiet (first | (go_at_call 79; exact Calls.quiet_of_same (cP.out _)))
          go_wp2_with fail
          go_ret
          exact ⟨ret_bool hR.out, below_drewN hEm.out _⟩
theorem fac_parts {M : Int} {F : Fac} (h : facOk M F = true) : varsOk F.vs = true ∧ numsOk M F.ns = true ∧ F.ns.length = 3 ^ F.vs.length ∧ F.vs.length ≤ 4 ∧ (∀ v ∈ F.vs, 0 ≤ v ∧ v ≤ 3) := by
  unfold facOk at h
  rw [Bool.and_eq_true, Bool.and_eq_true] at h
  exact ⟨h.1, h.2.1, of_decide_eq_true h.2.2, (vars_len h.1).1, (vars_len h.1).2⟩
end Go.Proofs.Ytghkpmafocacoaa
