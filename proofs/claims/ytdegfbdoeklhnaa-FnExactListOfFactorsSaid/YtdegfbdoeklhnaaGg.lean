/- Factors: the program's and the model's ListOfFactors. -/
import Derived.Test.YtdegfbdoeklhnaaGf
namespace Go.Proofs.Ytdegfbdoeklhnaa
set_option maxRecDepth 100000
set_option linter.unusedVariables false
open Go.RowKit

theorem st_all : ∀ i : Fin 81, stOf (over 15) (i.val : Int) = (i.val : Int) := by decide +kernel
theorem list_parts {Fs : List Fac} (h : listOk Fs = true) : Fs.length ≤ 8 ∧ ∀ F ∈ Fs, facOk 9 F = true := by
  unfold listOk at h
  rw [Bool.and_eq_true] at h
  exact ⟨of_decide_eq_true h.1, fun F hF => List.all_eq_true.1 h.2 F hF⟩
theorem nine_pow {k : Nat} (h : k ≤ 8) : (9 : Int) ^ k ≤ 1000000000000000000 := by
  obtain rfl | rfl | rfl | rfl | rfl | rfl | rfl | rfl | rfl : k = 0 ∨ k = 1 ∨ k = 2 ∨ k = 3 ∨ k = 4 ∨ k = 5 ∨ k = 6 ∨ k = 7 ∨ k = 8 := by omega
  all_goals decide
theorem fac15 (Fs : List Fac) : (facBy_ 15 (prodAt Fs)).ns = (List.range 81).map fun (i : Nat) => prodAt Fs (i : Int) := by
  have e : 3 ^ (over 15).length = 81 := by decide
  unfold facBy_
  dsimp only
  rw [e]
  refine List.map_congr_left fun i hi => ?_
  rw [st_all ⟨i, List.mem_range.1 hi⟩]
theorem lofTo_len (Fs : List Fac) : (lofTo Fs).length ≤ 81 := by
  unfold lofTo
  split <;> simp
theorem field_two (x y : Value) (w : World) : (Instr.field 27 (.agg #[x, y]) 1).run Try.prog w = .ok y w := by kernel_rfl
theorem ListOfFactors_any (A : Option Addr) (n c : Nat) (Fs : List Fac) (w : World) (h : FLst w w.heap.size A n Fs) (hn : n ≤ maxLen) (hsm : smallF Fs) :
    Calls Try.prog 33 #[.slice A n c] w (Lbd w (lofTo Fs) (listOk Fs)) := by
  have hI := Lib.hid h
  have hl := h.1
  have cK := Lib.hid (factorsOk_any A n c Fs w h hn hsm)
  have hnh := Lib.hid hn
  clear h hn hsm
  cases hk : listOk Fs
  · have hT : lofTo Fs = [] := by unfold lofTo; rw [hk]; rfl
    rw [hT]
    rw [hk] at cK
    clear hk hT
    go_enter Try.func33, Try.ntmps33
    go_wp2_with fail
    refine cK.out.mono ?_
    rintro e w1 ⟨rfl, hb⟩
    go_wp2_with fail
    go_ret2
    exact ⟨_, rfl, IOwn.nil _ _, hb⟩
  · have hT : lofTo Fs = (facBy_ 15 (prodAt Fs)).ns := by unfold lofTo; rw [hk, if_pos rfl, fac15]
    rw [hT]
    rw [hk] at cK
    obtain ⟨h8, hf⟩ := list_parts hk
    have cT := Lib.hid (fun wx hx => timesOver_any A n c Fs 15 9 wx hx hnh.out (by decide) (by decide) hf (fun k hk => nine_pow (by omega)))
    clear hk hT hf
    go_enter Try.func33, Try.ntmps33
    go_wp2_with fail
    refine cK.out.mono ?_
    rintro e w1 ⟨rfl, hb⟩
    have hI1 := Lib.hid ((hI.out.below hb).more hb.size)
    have hbh := Lib.hid hb
    clear hb
    go_wp2_with fail
    refine (cT.out _ hI1.out).mono ?_
    rintro e w2 ⟨v1, v2, rfl, hV, hb2⟩
    obtain ⟨D1, e1, rfl, _, _⟩ := hV.1.form
    obtain ⟨D2, e2, rfl, _, _⟩ := hV.2.1.form
    have hB2 := Lib.hid (hbh.out.trans (hb2.mono hbh.out.size))
    have hO := Lib.hid (show IOwn w2 w.heap.size (.slice D2 (facBy_ 15 (prodAt Fs)).ns.length e2) (facBy_ 15 (prodAt Fs)).ns from owns_le hV.2.1 hbh.out.size)
    clear hb2
    have hfi : ∀ wx : World, (Instr.field 27 (.agg #[.slice D1 (facBy_ 15 (prodAt Fs)).vs.length e1, .slice D2 (facBy_ 15 (prodAt Fs)).ns.length e2]) 1).run Try.prog wx = .ok (.slice D2 (facBy_ 15 (prodAt Fs)).ns.length e2) wx := fun wx => field_two _ _ wx
    go_wp2_with fail
    go_ret2
    exact ⟨_, rfl, hO.out, hB2.out⟩
set_option maxHeartbeats 2000000 in
theorem specListOfFactors_any (A : Option Addr) (n c : Nat) (Fs : List Fac) (w : World) (h : FLst w w.heap.size A n Fs) (hn : n ≤ maxLen) (hsm : smallF Fs) :
    Calls Try.prog 31 #[.slice A n c] w (Lbd w (lofTo Fs) (listOk Fs)) := by
  have hI := Lib.hid h
  have hl := h.1
  have cK := Lib.hid (l8List_any A n c Fs w h hn hsm)
  unfold maxLen at hn
  clear h hsm
  cases hk : listOk Fs
  · have hT : lofTo Fs = [] := by unfold lofTo; rw [hk]; rfl
    rw [hT]
    rw [hk] at cK
    clear hk hT
    go_enter Try.func31, Try.ntmps31
    go_wp2_with fail
    refine cK.out.mono ?_
    rintro e w1 ⟨rfl, hb⟩
    go_wp2_with fail
    go_ret2
    exact ⟨_, rfl, IOwn.nil _ _, hb⟩
  · have hT := Lib.hid (show lofTo Fs = (List.range 81).map fun (i : Nat) => prodAt Fs (i : Int) by unfold lofTo; rw [hk]; rfl)
    rw [hk] at cK
    obtain ⟨h8, hf⟩ := list_parts hk
    have hFh := Lib.hid hf
    obtain ⟨i0, hi0, hi1, hi2, hi3⟩ := info_parts info_int
    clear hk hf
    go_enter Try.func31, Try.ntmps31
    go_wp2_with fail
    refine cK.out.mono ?_
    rintro e w1 ⟨rfl, hb⟩
    have hz1 := hb.size
    have hN := Lib.hid (show IOwn (w1.alloc (.cells #[] 3)) w.heap.size (.slice (some ⟨w1.heap.size, 0, none⟩) 0 0) [] from
      ⟨rfl, .inr ⟨w1.heap.size, 0, #[], rfl, hz1, Has.new w1 _ _, Nat.le_refl _, Nat.zero_le _, rfl, rfl⟩⟩)
    have hB0 := Lib.hid (hb.alloc hz1 (.cells #[] 3))
    clear hb
    go_wp2_with fail
    go_loopg [4, 5] 81 (fun gn o v wr => ∃ k : Nat, k ≤ 81 ∧ gn = 81 - k ∧ v = .int .i64 k ∧ IOwn wr w.heap.size o ((List.range k).map fun (i : Nat) => prodAt Fs (i : Int)) ∧ Below w.heap.size w wr)
    case atStart => exact ⟨0, Nat.zero_le _, rfl, rfl, hN.out, hB0.out⟩
    case round =>
      obtain ⟨k, hk, hgn, rfl, hO, hB⟩ := hrel
      have hgk : gk = 81 - k := hgn
      obtain ⟨Ao, co, hvo, _, _⟩ := hO.form
      rw [List.length_map, List.length_range] at hvo
      subst hvo
      have hOh := Lib.hid hO
      have hBh := Lib.hid hB
      clear hgn hO hB
      by_cases hlt : k < 81
      · have hk0 : (0 : Int) ≤ (k : Int) := by omega
        have hk1 : (k : Int) < 81 := by omega
        have hst := Lib.hid (show (List.range (k + 1)).map (fun (i : Nat) => prodAt Fs (i : Int)) = ((List.range k).map fun (i : Nat) => prodAt Fs (i : Int)) ++ [prodAt Fs (k : Int)] by rw [List.range_succ, List.map_append]; rfl)
        have hlen : ((List.range k).map fun (i : Nat) => prodAt Fs (i : Int)).length = k := by simp
        go_wp2_with fail
        go_loopg [6, 7] n (fun gn o v wx => ∃ j : Nat, j ≤ n ∧ gn = n - j ∧ v = .int .i64 j ∧ o = .int .i64 (prodAt (Fs.take j) (k : Int)) ∧ Below wr.heap.size wr wx)
        case atStart => exact ⟨0, Nat.zero_le _, rfl, rfl, rfl, Below.refl _ _⟩
        case round =>
          obtain ⟨j, hj, hgn, rfl, rfl, hBx⟩ := hrel
          have hgj : gk = n - j := hgn
          have hBxh := Lib.hid hBx
          have hBw := Lib.hid (hBh.out.trans (hBx.mono hBh.out.size))
          clear hgn hBx
          by_cases hlj : j < n
          · obtain ⟨gl, off, F, B1, m1, e1, B2, m2, e2, rfl, hgl, hFj, cl1, cl2, hFW⟩ := (hI.out.below hBw.out).at_ hlj
            have hj0 : (0 : Int) ≤ (j : Int) := by omega
            have hj1 : (j : Int) < (n : Int) := by omega
            have hFo := hFh.out F (List.mem_of_getElem? hFj)
            obtain ⟨q1, q2, q3, q4, q5⟩ := fac_parts hFo
            have hm1 := hFW.1.1
            have cA := Lib.hid (fun wx hx => l8At_any B1 B2 m1 e1 m2 e2 F (k : Int) wx hx (by omega) q3 q5 (by omega))
            have hFx := Lib.hid (hFW.more hBw.out.size)
            have hFb := fAt_bd hFo (by decide) (k : Int)
            have hPb := prod_bd (by decide) hFh.out (k : Int) j
            have hPc := prod_bd (by decide) hFh.out (k : Int) (j + 1)
            have hPt := prod_take hFj (k : Int)
            have hT2 := nine_pow (k := j + 1) (by omega)
            rw [hPt] at hPc
            have hPth := Lib.hid hPt
            generalize prodAt (Fs.take j) (k : Int) = y at *
            generalize fAt F (k : Int) = z at *
            have hyz : 0 ≤ y * z ∧ y * z ≤ 1000000000000000000 := ⟨hPc.1, Int.le_trans hPc.2 hT2⟩
            have hwm : IntKind.i64.wrap (y * z) = y * z := by rw [IntKind.wrap_i64]; omega
            clear hFW hFo q1 q2 q3 q4 q5 hPt hFb hPb hPc hFj
            go_wp2_with fail
            refine (cA.out _ hFx.out).mono ?_
            rintro e w3 ⟨rfl, hb3⟩
            have hB3 := Lib.hid (hBxh.out.trans (hb3.mono hBxh.out.size))
            clear hb3
            go_wp2_with fail
            go_roundg (n - (j + 1))
            case measure => omega
            case rel => exact ⟨j + 1, by omega, rfl, by go_num, by rw [hPth.out], hB3.out⟩
          · obtain rfl : j = n := by omega
            have hT2 : prodAt (Fs.take j) (k : Int) = prodAt Fs (k : Int) := by rw [List.take_of_length_le (by omega)]
            rw [hT2]
            generalize prodAt Fs (k : Int) = y at *
            have hOx := Lib.hid (hOh.out.below hBxh.out)
            have hO3 := Lib.hid (hOx.out.alloc (.cells #[.int .i64 y] 3))
            have hO6 := Lib.hid (show (wr.alloc (.cells #[.int .i64 y] 3)).ownsRow w.heap.size 3 1 (.slice Ao k co) k (ints ((List.range k).map fun (i : Nat) => prodAt Fs (i : Int))) from by have h1 := hO3.out; unfold IOwn at h1; rwa [hlen] at h1)
            have hnw := Lib.hid (new_one wr (.int .i64 y) 3)
            have hB3 := Lib.hid (hBw.out.alloc hBw.out.size (.cells #[.int .i64 y] 3))
            go_wp2_with (at_builtin; refine wpList_append_lies _ rfl (.tmp 30) (.tmp 32) 22 rfl w.heap.size 3 i0 _ 1 8 Try.underlying22 hi0 hi1 hi2 hi3 rfl (by decide) (.slice Ao k co) k (ints ((List.range k).map fun (i : Nat) => prodAt Fs (i : Int))) rfl (by exact hO6.out) ⟨wr.heap.size, 0, none⟩ 1 1 [.int .i64 y] rfl rfl (by exact hnw.out) (by simp [Value.oneCell']) (by omega) (by unfold maxLen; omega) (by omega) (by exact hB3.out.size) (wr.heap.size + 1) (by simp) ?_; intro gr cr2 w4 hown4 hgrow4 hat4 hlt4)
            have hF := Lib.hid (IOwn.append_ (news := [y]) hO3.out (by rw [hlen]; exact hown4) hgrow4 hB3.out (by exact hB3.out.size))
            rw [← hst.out] at hF
            clear hown4 hgrow4 hat4
            go_wp2_with fail
            go_roundg (81 - (k + 1))
            case measure => omega
            case rel => exact ⟨k + 1, by omega, rfl, by go_num, hF.out.1, hF.out.2⟩
      · obtain rfl : k = 81 := by omega
        have hF := Lib.hid (show IOwn wr w.heap.size (.slice Ao 81 co) (lofTo Fs) from by rw [hT.out]; exact hOh.out)
        go_wp2_with fail
        go_ret2
        exact ⟨_, rfl, hF.out, hBh.out⟩
end Go.Proofs.Ytdegfbdoeklhnaa
