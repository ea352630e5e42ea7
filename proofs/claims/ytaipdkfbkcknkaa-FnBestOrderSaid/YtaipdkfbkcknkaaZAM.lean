/- Parts of the proof: K2, Gg. -/
import Derived.Test.YtaipdkfbkcknkaaZAD
import Derived.Test.YtaipdkfbkcknkaaZAH
namespace Go.Proofs.Ytaipdkfbkcknkaa
set_option maxRecDepth 100000
set_option linter.unusedVariables false
open Go.RowKit
def cnK (L : Int) : Nat → Int
  | 0 => 0
  | k + 1 => cnK L k + if tb L k = true then 1 else 0
theorem cnK_bd (L : Int) : ∀ k : Nat, 0 ≤ cnK L k ∧ cnK L k ≤ (k : Int)
  | 0 => by simp [cnK]
  | k + 1 => by
    have ih := cnK_bd L k
    have e : cnK L (k + 1) = cnK L k + if tb L k = true then 1 else 0 := rfl
    rw [e]
    split <;> omega
theorem cnK_all : ∀ n : Fin 16, cnK (n.val : Int) 4 = (cntN n.val : Nat) := by decide +kernel
theorem shr_and : ∀ n : Fin 16, ∀ k : Fin 4, bits .and .i64 ((n.val : Int) / 2 ^ k.val) 1 = if tb (n.val : Int) k.val = true then 1 else 0 := by decide +kernel
theorem countOf_any (L : Int) (w : World) (hL : 0 ≤ L ∧ L ≤ 15) :
    Calls Try.prog 121 #[.int .i64 L] w fun e w' => e = .returned (.int .i64 ((cntN L.toNat : Nat) : Int)) ∧ w = w' := by
  obtain ⟨n, rfl⟩ := fin16 hL
  have hR := Lib.hid (cnK_all n)
  rw [Int.toNat_natCast]
  have hS := Lib.hid (shr_and n)
  go_enter Try.func121, Try.ntmps121
  go_wp2_with fail
  go_loopg [3, 4] 4 (fun gn o v wr => ∃ k : Nat, k ≤ 4 ∧ gn = 4 - k ∧ v = .int .i64 k ∧ o = .int .i64 (cnK (n.val : Int) k) ∧ wr = w)
  case atStart => exact ⟨0, Nat.zero_le _, rfl, rfl, rfl, rfl⟩
  case round =>
    obtain ⟨k, hk, hgn, rfl, rfl, rfl⟩ := hrel
    have hgk : gk = 4 - k := hgn
    clear hgn
    by_cases hlt : k < 4
    · have hsa := hS.out ⟨k, hlt⟩
      simp only at hsa
      have hk0 : (0 : Int) ≤ (k : Int) := by omega
      have hk4 : (k : Int) < 4 := by omega
      have hk64 : (k : Int) ≤ 64 := by omega
      have hb := cnK_bd (n.val : Int) k
      have hn := Lib.hid (show cnK (n.val : Int) (k + 1) = cnK (n.val : Int) k + if tb (n.val : Int) k = true then 1 else 0 from rfl)
      have hz : 0 ≤ (if tb (n.val : Int) k = true then (1 : Int) else 0) ∧ (if tb (n.val : Int) k = true then (1 : Int) else 0) ≤ 1 := by split <;> omega
      generalize (if tb (n.val : Int) k = true then (1 : Int) else 0) = z at hsa hn hz
      generalize cnK (n.val : Int) k = y at hb hn ⊢
      have hw : IntKind.i64.wrap (y + z) = y + z := by rw [IntKind.wrap_i64]; omega
      go_wp2_with fail
      go_roundg (4 - (k + 1))
      case measure => omega
      case rel => exact ⟨k + 1, by omega, rfl, by go_num, by rw [hn.out], rfl⟩
    · obtain rfl : k = 4 := by omega
      rw [hR.out]
      go_wp2_with fail
      go_ret
      exact ⟨rfl, rfl⟩
theorem ban_all : ∀ n m : Fin 16, bits .and .i64 (n.val : Int) (m.val : Int) = ban (n.val : Int) (m.val : Int) := by decide +kernel
theorem bits_ban {a b : Int} (ha : 0 ≤ a ∧ a ≤ 15) (hb : 0 ≤ b ∧ b ≤ 15) : bits .and .i64 a b = ban a b := by
  obtain ⟨n, rfl⟩ := fin16 ha
  obtain ⟨m, rfl⟩ := fin16 hb
  exact ban_all n m
theorem ban_bd {a b : Int} (ha : 0 ≤ a ∧ a ≤ 15) : 0 ≤ ban a b ∧ ban a b ≤ 15 := by
  unfold ban
  have : a.toNat &&& b.toNat ≤ a.toNat := Nat.and_le_left
  omega
theorem rdS_take {T : Int} {ss : List Int} {k : Nat} {s : Int} (h : ss[k]? = some s) (J : Int) : rdS T (ss.take (k + 1)) J = if ban (ban s (rdS T (ss.take k) J)) T = 0 then rdS T (ss.take k) J else bor (rdS T (ss.take k) J) s := by
  obtain ⟨hl, he⟩ := List.getElem?_eq_some_iff.1 h
  unfold rdS
  rw [List.take_succ_eq_append_getElem hl, List.foldl_append, he]
  rfl
theorem sts_take {ss : List Int} (h : Sts ss) (k : Nat) : Sts (ss.take k) := fun s hs => h s (List.mem_of_mem_take hs)
set_option maxHeartbeats 1000000 in
theorem widthBehind_any (A : Option Addr) (n c : Nat) (ss : List Int) (gone : Int) (v : Nat) (w : World) (h : Ils w w.heap.size A n ss) (hn : n ≤ maxLen) (hs : Sts ss) (hg : 0 ≤ gone ∧ gone ≤ 15) (hv : v ≤ 3) :
    Calls Try.prog 75 #[.slice A n c, .int .i64 gone, .int .i64 (v : Int)] w fun e w' => e = .returned (.int .i64 (wbS ss gone v)) ∧ w = w' := by
  have hI := Lib.hid h
  have hSt := Lib.hid hs
  have hl := h.1
  have hT := Lib.hid (show ss.take n = ss from List.take_of_length_le (by omega))
  have hn9 : n ≤ 9223372036854775807 := by unfold maxLen at hn; omega
  have cB := Lib.hid (fun wx => bitOf_any (v : Int) wx)
  have hTb := bor_bd (a := gone) (b := bitN (v : Int)) hg.2 (bitN_le (v : Int)).2
  have hor := bits_or hg (bitN_le (v : Int))
  have hR := Lib.hid (wbS_eq hs hg hv)
  have hgh := Lib.hid hg
  have h0 := Lib.hid (show clS ss (bor gone (bitN (v : Int))) v 0 = bitN (v : Int) from rfl)
  have hT2 := Lib.hid hTb
  clear h hn hs hg
  go_enter Try.func75, Try.ntmps75
  go_wp2_with fail
  refine (cB.out _).mono ?_
  rintro e w' ⟨rfl, rfl⟩
  go_wp2_with fail
  refine (cB.out _).mono ?_
  rintro e w' ⟨rfl, rfl⟩
  go_wp2_with fail
  generalize hTe : bor gone (bitN (v : Int)) = T at *
  rw [← h0.out]
  go_loopg [7, 9] 3 (fun gn o r wr => ∃ k : Nat, k ≤ 3 ∧ gn = 3 - k ∧ r = .int .i64 ((k : Int) + 1) ∧ o = .int .i64 (clS ss T v k) ∧ wr = w)
  case atStart => exact ⟨0, Nat.zero_le _, rfl, rfl, rfl, rfl⟩
  case round =>
    obtain ⟨k, hk, hgn, rfl, rfl, rfl⟩ := hrel
    have hgk : gk = 3 - k := hgn
    clear hgn
    obtain ⟨w80, rfl⟩ : ∃ x : World, x = wr := ⟨_, rfl⟩
    by_cases hlt : k < 3
    · have hk0 : (0 : Int) ≤ (k : Int) := by omega
      have hk4 : (k : Int) + 1 < 4 := by omega
      have hcb := Lib.hid (clS_bd (T := T) hSt.out v k)
      have hnx := Lib.hid (show clS ss T v (k + 1) = rdS T ss (clS ss T v k) from rfl)
      generalize clS ss T v k = J0 at hcb hnx ⊢
      have hz := Lib.hid (show rdS T (ss.take 0) J0 = J0 from rfl)
      go_wp2_with fail
      go_loopg [7, 24] n (fun gn o r wr => ∃ j : Nat, j ≤ n ∧ gn = n - j ∧ r = .int .i64 j ∧ o = .int .i64 (rdS T (ss.take j) J0) ∧ wr = w80)
      case atStart => exact ⟨0, Nat.zero_le _, rfl, rfl, by rw [hz.out], rfl⟩
      case round =>
        obtain ⟨j, hj, hgn, rfl, rfl, rfl⟩ := hrel
        have hgj : gk = n - j := hgn
        clear hgn
        by_cases hlj : j < n
        · obtain ⟨g, off, s, rfl, hg, hsj, cs⟩ := hI.out.at_ hlj
          have hj0 : (0 : Int) ≤ (j : Int) := by omega
          have hj1 : (j : Int) < (n : Int) := by omega
          have hsb := hSt.out s (List.mem_of_getElem? hsj)
          have htk := Lib.hid (rdS_take (T := T) hsj J0)
          have hJb := rdS_bd (T := T) (sts_take hSt.out j) hcb.out
          generalize rdS T (ss.take j) J0 = J at hJb htk ⊢
          have e1 := bits_ban hsb hJb
          have hb1 := ban_bd (b := J) hsb
          have e2 := bits_ban hb1 hT2.out
          have e3 := bits_or hJb hsb
          clear hsj
          by_cases hq : ban (ban s J) T = 0
          · have hqq : (ban (ban s J) T == 0) = true := by simpa using hq
            rw [if_pos hq] at htk
            clear hq
            go_wp2_with fail
            go_roundg (n - (j + 1))
            case measure => omega
            case rel => exact ⟨j + 1, by omega, rfl, by go_num, by rw [htk.out], rfl⟩
          · have hqq : (ban (ban s J) T == 0) = false := by simpa using hq
            rw [if_neg hq] at htk
            clear hq
            go_wp2_with fail
            go_roundg (n - (j + 1))
            case measure => omega
            case rel => exact ⟨j + 1, by omega, rfl, by go_num, by rw [htk.out], rfl⟩
        · obtain rfl : j = n := by omega
          rw [hT.out, ← hnx.out]
          go_wp2_with fail
          go_roundg (3 - (k + 1))
          case measure => omega
          case rel => exact ⟨k + 1, by omega, rfl, by go_num, rfl, rfl⟩
    · obtain rfl : k = 3 := by omega
      have hcb := clS_bd (T := T) hSt.out v 3
      have hdf := bits_diff hcb hgh.out
      have cC := Lib.hid (fun wx => countOf_any (bdf (clS ss T v 3) gone) wx (bdf_bd hcb.2))
      clear hcb
      go_wp2_with fail
      refine (cC.out _).mono ?_
      rintro e w' ⟨rfl, rfl⟩
      go_wp2_with fail
      go_ret
      exact ⟨ret_int hR.out, rfl⟩
/-- Different variables. -/
def oOkF : List Int → Int → Bool
  | [], _ => true
  | v :: r, L => (inB v 0 3 && !tb L v.toNat) && oOkF r (bor L (bitN v))
def orderOk (os : List Int) : Bool := oOkF os 0
theorem OrderOk_any (A : Option Addr) (n c : Nat) (os : List Int) (w : World) (h : Ils w w.heap.size A n os) (hn : n ≤ maxLen) :
    Calls Try.prog 17 #[.slice A n c] w fun e w' => e = .returned (.bool (orderOk os)) ∧ w = w' := by
  have hI := Lib.hid h
  have hl := h.1
  have hn9 : n ≤ 9223372036854775807 := by unfold maxLen at hn; omega
  clear h hn
  go_enter Try.func17, Try.ntmps17
  go_wp2_with fail
  go_loopg [3, 8] n (fun gn o r wr => ∃ (k : Nat) (L : Int), k ≤ n ∧ gn = n - k ∧ r = .int .i64 k ∧ o = .int .i64 L ∧ (0 ≤ L ∧ L ≤ 15) ∧ oOkF (os.drop k) L = orderOk os ∧ wr = w)
  case atStart => exact ⟨0, 0, Nat.zero_le _, rfl, rfl, rfl, by decide, rfl, rfl⟩
  case round =>
    obtain ⟨k, L, hk, hgn, rfl, rfl, hL, hO, rfl⟩ := hrel
    have hgk : gk = n - k := hgn
    clear hgn
    by_cases hlt : k < n
    · obtain ⟨g, off, d, rfl, hg, hd, cd⟩ := hI.out.at_ hlt
      have hdr : os.drop k = d :: os.drop (k + 1) := by
        rw [List.drop_eq_getElem_cons (by omega), (List.getElem?_eq_some_iff.1 hd).2]
      rw [hdr] at hO
      have hO' : ((inB d 0 3 && !tb L d.toNat) && oOkF (os.drop (k + 1)) (bor L (bitN d))) = orderOk os := hO
      have hOh := Lib.hid hO'
      have hk0 : (0 : Int) ≤ (k : Int) := by omega
      have hk1 : (k : Int) < (n : Int) := by omega
      have cV := Lib.hid (fun wx => varOk_any d wx)
      have cB := Lib.hid (fun wx => bitOf_any d wx)
      have hor := bits_or hL (bitN_le d)
      have hLh := Lib.hid hL
      clear hO hO' hd hdr hL
      cases hin : inB d 0 3
      · rw [hin] at cV hOh
        have hR := Lib.hid (show orderOk os = false from hOh.out.symm)
        clear hin hOh
        go_wp2_with fail
        refine (cV.out _).mono ?_
        rintro e w' ⟨rfl, rfl⟩
        go_wp2_with fail
        go_ret
        exact ⟨ret_bool hR.out, rfl⟩
      · rw [hin] at cV hOh
        obtain ⟨u, rfl, hu⟩ := nat4 (inB_iff.1 hin).1 (inB_iff.1 hin).2
        rw [Int.toNat_natCast] at hOh
        have hba : (bits .and .i64 L (bitN (u : Int)) != 0) = tb L u := by
          have := bits_and hLh.out (show u ≤ 3 by omega)
          simp only [bne, this, Bool.not_not]
        clear hin
        cases ht : tb L u
        · rw [ht] at hOh hba
          have hR := Lib.hid (show oOkF (os.drop (k + 1)) (bor L (bitN (u : Int))) = orderOk os from by rw [← hOh.out]; simp)
          have hLb := Lib.hid (bor_bd (a := L) (b := bitN (u : Int)) hLh.out.2 (bitN_le (u : Int)).2)
          clear ht hOh
          go_wp2_with fail
          refine (cV.out _).mono ?_
          rintro e w' ⟨rfl, rfl⟩
          go_wp2_with fail
          refine (cB.out _).mono ?_
          rintro e w' ⟨rfl, rfl⟩
          go_wp2_with fail
          refine (cB.out _).mono ?_
          rintro e w' ⟨rfl, rfl⟩
          go_wp2_with fail
          go_roundg (n - (k + 1))
          case measure => omega
          case rel => exact ⟨k + 1, _, by omega, rfl, by go_num, rfl, hLb.out, hR.out, rfl⟩
        · rw [ht] at hOh hba
          have hR := Lib.hid (show orderOk os = false from by rw [← hOh.out]; rfl)
          clear ht hOh
          go_wp2_with fail
          refine (cV.out _).mono ?_
          rintro e w' ⟨rfl, rfl⟩
          go_wp2_with fail
          refine (cB.out _).mono ?_
          rintro e w' ⟨rfl, rfl⟩
          go_wp2_with fail
          go_ret
          exact ⟨ret_bool hR.out, rfl⟩
    · obtain rfl : k = n := by omega
      have hR := Lib.hid (show orderOk os = true from by rw [← hO, List.drop_eq_nil_of_le (by omega)]; rfl)
      go_wp2_with fail
      go_ret
      exact ⟨ret_bool hR.out, rfl⟩
end Go.Proofs.Ytaipdkfbkcknkaa

namespace Go.Proofs.Ytaipdkfbkcknkaa
set_option maxRecDepth 100000
set_option linter.unusedVariables false
open Go.RowKit
theorem list_parts {Fs : List Fac} (h : listOk Fs = true) : Fs.length ≤ 8 ∧ ∀ F ∈ Fs, facOk 9 F = true := by
  unfold listOk at h
  rw [Bool.and_eq_true] at h
  exact ⟨of_decide_eq_true h.1, fun F hF => List.all_eq_true.1 h.2 F hF⟩
end Go.Proofs.Ytaipdkfbkcknkaa
