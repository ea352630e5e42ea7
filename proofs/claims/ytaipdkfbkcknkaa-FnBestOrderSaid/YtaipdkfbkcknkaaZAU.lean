/- Parts of the proof: KC. -/
import Derived.Test.YtaipdkfbkcknkaaZAQ
namespace Go.Proofs.Ytaipdkfbkcknkaa
set_option maxRecDepth 100000
set_option linter.unusedVariables false
open Go.RowKit
theorem natsOf_nats (p : List Nat) : natsOf (nats p) = p := by
  unfold natsOf nats
  rw [List.map_map]
  conv => rhs; rw [← List.map_id p]
  exact List.map_congr_left fun v _ => Int.toNat_natCast v
theorem nats_len (p : List Nat) : (nats p).length = p.length := List.length_map _
theorem nats_mem {p : List Nat} {v : Nat} : ((v : Int) ∈ nats p) ↔ v ∈ p := by
  unfold nats
  rw [List.mem_map]
  constructor
  · rintro ⟨a, ha, e⟩
    have : a = v := by omega
    exact this ▸ ha
  · exact fun h => ⟨v, h, rfl⟩
theorem nats_append (p : List Nat) (v : Nat) : nats (p ++ [v]) = nats p ++ [(v : Int)] := by unfold nats; rw [List.map_append]; rfl
theorem elimN_all {Fs : List Fac} (hf : Fine Fs) {p : List Nat} (hp : ∀ v ∈ p, v ≤ 3) : Fine (elimA Fs (nats p)) ∧ pb (elimA Fs (nats p)) ≤ 3 ^ p.length * pb Fs ∧ (elimA Fs (nats p)).length ≤ Fs.length + p.length ∧ grS (setsF (elimA Fs (nats p))) = (grS (setsF Fs)).elS p := by
  have h := elimA_all hf (os := nats p) (fun v hv => by
    obtain ⟨a, ha, rfl⟩ := List.mem_map.1 hv
    have := hp a ha
    omega) p.length (by rw [nats_len]; exact Nat.le_refl _)
  rw [List.take_of_length_le (by rw [nats_len]; exact Nat.le_refl _), natsOf_nats, List.take_of_length_le (Nat.le_refl _)] at h
  exact h
theorem elimN_snoc (Fs : List Fac) (p : List Nat) (v : Nat) : elimA Fs (nats (p ++ [v])) = elim1 (elimA Fs (nats p)) (v : Int) := by
  rw [nats_append]
  unfold elimA
  rw [List.foldl_append]
  rfl
theorem gm_len (g : Gr) : ∀ k, (g.gm k).length = k
  | 0 => rfl
  | k + 1 => by unfold Gr.gm; rw [List.length_append, gm_len g k]; rfl
theorem gm_four (g : Gr) : ∀ x ∈ g.gm 4, x ≤ 3 := gr_all (P := fun g => ∀ x ∈ g.gm 4, x ≤ 3) (by decide +kernel) g
theorem gm_sub (g : Gr) (k : Nat) : ∀ d, ∀ x ∈ g.gm k, x ∈ g.gm (k + d)
  | 0, x, hx => hx
  | d + 1, x, hx => by
    show x ∈ g.gm (k + d) ++ _
    exact List.mem_append.2 (.inl (gm_sub g k d x hx))
theorem gm_lt (g : Gr) {k : Nat} (hk : k ≤ 4) : ∀ x ∈ g.gm k, x ≤ 3 := fun x hx => gm_four g x (by
  have := gm_sub g k (4 - k) x hx
  rwa [show k + (4 - k) = 4 by omega] at this)
theorem gm_pick (g : Gr) {k : Nat} (hk : k < 4) : (g.elS (g.gm k)).pickM (g.gm k) 4 ≤ 3 := gm_lt g (k := k + 1) hk _ (by
  show _ ∈ g.gm k ++ [_]
  exact List.mem_append.2 (.inr (by simp)))
def bestV (p : Nat) : Int := if p = 4 then -1 else (p : Int)
def leastV (g : Gr) (p : Nat) : Int := if p = 4 then 0 else (g.w1 p : Int)
theorem pick_yes {g : Gr} {out : List Nat} {k : Nat} (h1 : k ∉ out) (h2 : bestV (g.pickM out k) < 0 ∨ (g.w1 k : Int) < leastV g (g.pickM out k)) (hk : k ≤ 3) : g.pickM out (k + 1) = k := by
  have e : g.pickM out (k + 1) = if !out.contains k && (g.pickM out k == 4 || decide (g.w1 k < g.w1 (g.pickM out k))) then k else g.pickM out k := rfl
  rw [e, if_pos]
  have hc : out.contains k = false := by
    rw [List.contains_eq_mem]
    exact decide_eq_false h1
  rw [hc]
  unfold bestV leastV at h2
  by_cases h4 : g.pickM out k = 4
  · rw [h4]; rfl
  · rw [if_neg h4, if_neg h4] at h2
    have : g.w1 k < g.w1 (g.pickM out k) := by omega
    rw [decide_eq_true this]
    simp
theorem pick_no {g : Gr} {out : List Nat} {k : Nat} (h : k ∈ out ∨ ¬ (bestV (g.pickM out k) < 0 ∨ (g.w1 k : Int) < leastV g (g.pickM out k))) : g.pickM out (k + 1) = g.pickM out k := by
  have e : g.pickM out (k + 1) = if !out.contains k && (g.pickM out k == 4 || decide (g.w1 k < g.w1 (g.pickM out k))) then k else g.pickM out k := rfl
  rw [e, if_neg]
  rcases h with h | h
  · have hc : out.contains k = true := by
      rw [List.contains_eq_mem]
      exact decide_eq_true h
    rw [hc]
    simp
  · unfold bestV leastV at h
    by_cases h4 : g.pickM out k = 4
    · exfalso
      rw [if_pos h4, if_pos h4] at h
      exact h (.inl (by decide))
    · rw [if_neg h4, if_neg h4] at h
      have : ¬ g.w1 k < g.w1 (g.pickM out k) := fun q => h (.inr (by omega))
      rw [decide_eq_false this]
      simp [h4]
theorem greedyTo_len (Fs : List Fac) : (greedyTo Fs).length ≤ 4 := by
  unfold greedyTo
  split
  · rw [nats_len]
    unfold Gr.greedy
    rw [ord_len]
    exact Nat.le_refl _
  · decide
set_option maxHeartbeats 2000000 in
theorem specGreedyOrder_any (A : Option Addr) (n c : Nat) (Fs : List Fac) (w : World) (h : FLst0 w w.heap.size A n Fs) (hn : n ≤ maxLen) (hsm : smallF Fs) :
    Calls Try.prog 37 #[.slice A n c] w (Lbd w (greedyTo Fs) (listOk Fs)) := by
  have hI := Lib.hid h
  have hl := h.1.1
  have cK := Lib.hid (l8List_any A n c Fs w h.1 hn hsm)
  clear h hn hsm
  cases hk : listOk Fs
  · have hT : greedyTo Fs = [] := by unfold greedyTo; rw [hk]; rfl
    rw [hT]
    rw [hk] at cK
    clear hk hT
    go_enter Try.func37, Try.ntmps37
    go_wp2_with fail
    refine cK.out.mono ?_
    rintro e w1 ⟨rfl, hb⟩
    go_wp2_with fail
    go_ret2
    exact ⟨_, rfl, IOwn.nil _ _, hb⟩
  · obtain ⟨h8, hf, hfine⟩ := list_fine hk
    have hT : greedyTo Fs = nats ((grS (setsF Fs)).gm 4) := by unfold greedyTo; rw [hk, if_pos rfl, greedy_eq]
    rw [hT]
    rw [hk] at cK
    have hAll := Lib.hid (fun (p : List Nat) (hp : ∀ v ∈ p, v ≤ 3) => elimN_all hfine hp)
    have hPw := Lib.hid (fun (k : Nat) (hk : k ≤ 4) => pow_bd h8 hf hk)
    have hlh := Lib.hid hl
    obtain ⟨i0, hi0, hz0, hz1', hz2'⟩ := info_parts info_int
    generalize grS (setsF Fs) = gr at *
    clear hk hT hf hfine hl
    go_enter Try.func37, Try.ntmps37
    go_wp2_with fail
    refine cK.out.mono ?_
    rintro e w1 ⟨rfl, hb⟩
    have hO0 := Lib.hid (show IOwn (w1.alloc (.cells #[] 3)) w.heap.size (.slice (some ⟨w1.heap.size, 0, none⟩) 0 0) (nats (gr.gm 0)) from
      ⟨rfl, .inr ⟨w1.heap.size, 0, #[], rfl, hb.size, Has.new w1 _ _, Nat.le_refl _, Nat.zero_le _, rfl, rfl⟩⟩)
    have hB0 := Lib.hid (hb.alloc hb.size (.cells #[] 3))
    have hI0 := Lib.hid (((hI.out.below hb).below ((Below.refl _ _).alloc hb.size (.cells #[] 3))).more (B' := (w1.alloc (.cells #[] 3)).heap.size) (Nat.le_trans hb.size (by simp)))
    clear hb
    go_wp2_with fail
    generalize w1.alloc (.cells #[] 3) = W at hO0 hB0 hI0 ⊢
    generalize w1.heap.size = G0 at hO0 ⊢
    go_loopg [0, 4] 4 (fun gq l o wr => ∃ (k : Nat) (A' : Option Addr) (n' c' : Nat), k ≤ 4 ∧ gq = 4 - k ∧ l = .slice A' n' c' ∧ FLst0 wr wr.heap.size A' n' (elimA Fs (nats (gr.gm k))) ∧ IOwn wr w.heap.size o (nats (gr.gm k)) ∧ Below w.heap.size w wr)
    case atStart => exact ⟨0, A, n, c, Nat.zero_le _, rfl, rfl, hI0.out, hO0.out, hB0.out⟩
    case round =>
      obtain ⟨k, A', n', c', hk, hgn, rfl, hL, hO, hB⟩ := hrel
      have hgk : gk = 4 - k := hgn
      clear hgn
      obtain ⟨Ao, co, rfl, _, _⟩ := hO.form
      rw [nats_len, gm_len] at hO ⊢
      have hLh := Lib.hid hL
      have hOh := Lib.hid hO
      have hBh := Lib.hid hB
      clear hL hO hB
      obtain ⟨w80, rfl⟩ : ∃ x : World, x = wr := ⟨_, rfl⟩
      by_cases hlt : k < 4
      · obtain ⟨a1, a2, a3, a4⟩ := hAll.out _ (gm_lt gr hk)
        rw [gm_len] at a2 a3
        have hpk := hPw.out k (by omega)
        have hln : n' ≤ 20 := by have := hLh.out.1.1; have := hlh.out; omega
        have hk0 : (0 : Int) ≤ (k : Int) := by omega
        have hk4 : (k : Int) < 4 := by omega
        have hpk4 := gm_pick gr hlt
        have hgn1 := Lib.hid (show gr.gm (k + 1) = gr.gm k ++ [(gr.elS (gr.gm k)).pickM (gr.gm k) 4] from rfl)
        have hol := Lib.hid (show (nats (gr.gm k)).length = k by rw [nats_len, gm_len])
        have hmem := Lib.hid (fun v : Nat => @nats_mem (gr.gm k) v)
        have hsn := Lib.hid (fun v => elimN_snoc Fs (gr.gm k) v)
        have hw := Lib.hid (fun (v : Nat) (hv : v ≤ 3) => show (prodV (elimA Fs (nats (gr.gm k))) (v : Int)).vs.length = (gr.elS (gr.gm k)).w1 v from by have := prodV_wid a1 ⟨v, by omega⟩; rwa [a4] at this)
        have cL := Lib.hid (fun (v : Nat) (hv : v ≤ 3) (A2 : Option Addr) (m2 d2 : Nat) (wx : World) (hx : FLst0 wx wx.heap.size A2 m2 (elimA Fs (nats (gr.gm k)))) (hm : m2 ≤ 20) => show Calls Try.prog 67 #[.slice A2 m2 d2, .int .i64 (v : Int)] wx (OneD wx (elim1 (elimA Fs (nats (gr.gm k))) (v : Int)) ((prodV (elimA Fs (nats (gr.gm k))) (v : Int)).vs.length : Int)) from l9One_any A2 m2 d2 _ ⟨v, by omega⟩ wx hx.1 hx.2 hm a1 (by omega))
        generalize gr.elS (gr.gm k) = g1 at *
        generalize hgm : gr.gm k = out at *
        clear a1 a2 a3 a4 hpk
        go_wp2_with fail
        go_loopg [5, 6, 7] 4 (fun gq b y x wr => ∃ j : Nat, j ≤ 4 ∧ gq = 4 - j ∧ x = .int .i64 j ∧ b = .int .i64 (bestV (g1.pickM out j)) ∧ y = .int .i64 (leastV g1 (g1.pickM out j)) ∧ FLst0 wr wr.heap.size A' n' (elimA Fs (nats out)) ∧ IOwn wr w.heap.size (.slice Ao k co) (nats out) ∧ Below w.heap.size w wr)
        case atStart => exact ⟨0, Nat.zero_le _, rfl, rfl, rfl, rfl, hLh.out, hOh.out, hBh.out⟩
        case round =>
          obtain ⟨j, hj, hgn, rfl, rfl, rfl, hL, hO, hB⟩ := hrel
          have hgj : gk = 4 - j := hgn
          clear hgn
          have kL := Lib.hid hL
          have kO := Lib.hid hO
          have kB := Lib.hid hB
          clear hL hO hB
          by_cases hlj : j < 4
          · have hj0 : (0 : Int) ≤ (j : Int) := by omega
            have hj4 : (j : Int) < 4 := by omega
            have cLj := Lib.hid (cL.out j (by omega) A' n' c' wr kL.out hln)
            have hwj := hw.out j (by omega)
            rw [hwj] at cLj
            have cH := Lib.hid (fun wx (hx : Ils wx wx.heap.size Ao k (nats out)) => l8Has_any Ao k co (nats out) (j : Int) wx hx (by unfold maxLen; omega))
            clear hwj
            go_wp2_with fail
            refine cLj.out.mono ?_
            rintro e w3 ⟨v3, vs3, rfl, _, _, hb3⟩
            have kL3 := Lib.hid ((kL.out.below hb3).more hb3.size)
            have kO3 := Lib.hid (kO.out.below hb3)
            have kB3 := Lib.hid (kB.out.trans (hb3.mono kB.out.size))
            have kI3 := Lib.hid (show Ils w3 w3.heap.size Ao k (nats out) from IOwn.lst kO3.out)
            clear hb3
            go_wp2_with fail
            refine (cH.out _ kI3.out).mono ?_
            rintro e w' ⟨rfl, rfl⟩
            by_cases hin : j ∈ out
            · have hd : decide ((j : Int) ∈ nats out) = true := decide_eq_true ((hmem.out j).2 hin)
              have hp := Lib.hid (pick_no (g := g1) (.inl hin))
              rw [hd]
              clear hin hd
              go_wp2_with fail
              go_roundg (4 - (j + 1))
              case measure => omega
              case rel => exact ⟨j + 1, by omega, rfl, by go_num, by rw [hp.out], by rw [hp.out], kL3.out, kO3.out, kB3.out⟩
            · have hd : decide ((j : Int) ∈ nats out) = false := decide_eq_false fun q => hin ((hmem.out j).1 q)
              rw [hd]
              have hyes := Lib.hid (fun q => pick_yes (g := g1) hin q (show j ≤ 3 by omega))
              have hno := Lib.hid (fun q => pick_no (g := g1) (out := out) (k := j) (.inr q))
              have hbj := Lib.hid (show bestV j = (j : Int) from if_neg (by omega))
              have hlj2 := Lib.hid (show leastV g1 j = (g1.w1 j : Int) from if_neg (by omega))
              obtain ⟨b, hbe⟩ : ∃ b, bestV (g1.pickM out j) = b := ⟨_, rfl⟩
              obtain ⟨y, hye⟩ : ∃ y, leastV g1 (g1.pickM out j) = y := ⟨_, rfl⟩
              rw [hbe, hye] at hyes hno ⊢
              have hbh := Lib.hid hbe
              have hyh := Lib.hid hye
              clear hbe hye
              generalize g1.w1 j = x at *
              clear hin hd
              by_cases hb0 : b < 0
              · have hp := Lib.hid (hyes.out (.inl hb0))
                go_wp2_with fail
                go_roundg (4 - (j + 1))
                case measure => omega
                case rel => exact ⟨j + 1, by omega, rfl, by go_num, by rw [hp.out, hbj.out], by rw [hp.out, hlj2.out], kL3.out, kO3.out, kB3.out⟩
              · by_cases hxy : (x : Int) < y
                · have hp := Lib.hid (hyes.out (.inr hxy))
                  go_wp2_with fail
                  go_roundg (4 - (j + 1))
                  case measure => omega
                  case rel => exact ⟨j + 1, by omega, rfl, by go_num, by rw [hp.out, hbj.out], by rw [hp.out, hlj2.out], kL3.out, kO3.out, kB3.out⟩
                · have hp := Lib.hid (hno.out (by omega))
                  go_wp2_with fail
                  go_roundg (4 - (j + 1))
                  case measure => omega
                  case rel => exact ⟨j + 1, by omega, rfl, by go_num, by rw [hp.out, hbh.out], by rw [hp.out, hyh.out], kL3.out, kO3.out, kB3.out⟩
          · obtain rfl : j = 4 := by omega
            have hbv := Lib.hid (show bestV (g1.pickM out 4) = (g1.pickM out 4 : Int) from if_neg (by omega))
            rw [hbv.out]
            have cLp := Lib.hid (cL.out (g1.pickM out 4) hpk4 A' n' c' wr kL.out hln)
            rw [← hsn.out, ← hgn1.out] at cLp
            have hgx := Lib.hid (show nats (gr.gm (k + 1)) = nats out ++ [(g1.pickM out 4 : Int)] from by rw [hgn1.out, nats_append])
            generalize g1.pickM out 4 = pp at *
            generalize (prodV (elimA Fs (nats out)) (pp : Int)).vs.length = bb at *
            go_wp2_with fail
            refine cLp.out.mono ?_
            rintro e w3 ⟨v3, vs3, rfl, hR3, _, hb3⟩
            obtain ⟨A3, c3, rfl, _, _⟩ := hR3.form
            have kO3 := kO.out.below hb3
            have kB3 := kB.out.trans (hb3.mono kB.out.size)
            have hal : Below w3.heap.size w3 (w3.alloc (.cells #[.int .i64 (pp : Int)] 3)) := (Below.refl _ _).alloc (Nat.le_refl _) _
            have hR4 := Lib.hid (hR3.below hal)
            have hlo := Lib.hid (fun k2 (hk2 : (Value.slice Ao k co).ownBlock = some k2) => (World.ownsRow.lt kO.out k2 hk2).2)
            have hO4 := Lib.hid (kO3.alloc (.cells #[.int .i64 (pp : Int)] 3))
            have hnw := Lib.hid (new_one w3 (.int .i64 (pp : Int)) 3)
            have hB4 := Lib.hid (kB3.alloc kB3.size (.cells #[.int .i64 (pp : Int)] 3))
            have hO5 := Lib.hid (show (w3.alloc (.cells #[.int .i64 (pp : Int)] 3)).ownsRow w.heap.size 3 1 (.slice Ao k co) k (ints (nats out)) from by have h9 := hO4.out; unfold IOwn at h9; rwa [hol.out] at h9)
            clear hR3 hb3 kO3 kB3 hal
            go_wp2_with (at_builtin; refine wpList_append_lies _ rfl (.tmp 48) (.tmp 50) 22 rfl w.heap.size 3 i0 _ 1 8 Try.underlying22 hi0 hz0 hz1' hz2' rfl (by decide) (.slice Ao k co) k (ints (nats out)) rfl (by exact hO5.out) ⟨w3.heap.size, 0, none⟩ 1 1 [.int .i64 (pp : Int)] rfl rfl (by exact hnw.out) (by simp [Value.oneCell']) (by omega) (by unfold maxLen; omega) (by omega) (by exact hB4.out.size) (w3.heap.size + 1) (by simp) ?_; intro gr2 cr2 w6 hown6 hgrow6 hat6 hlt6)
            have hF := IOwn.append_ (news := [(pp : Int)]) hO4.out (by rw [hol.out]; exact hown6) hgrow6 hB4.out (by exact hB4.out.size)
            rw [← hgx.out] at hF
            have hF1 := Lib.hid hF.1
            have hF2 := Lib.hid hF.2
            have hk6 : KeptBut _ w6 (fun i => (Value.slice Ao k co).ownBlock = some i) := KeptBut.of_grown hgrow6 (fun k e => e)
            have hR6 := hR4.out.but hk6 (fun k2 e1 e2 => by have q1 := (World.ownsRow.lt hR4.out.1 k2 e1).1; have q2 := hlo.out k2 e2; omega) (fun k2 cur _ q1 _ e2 => by have q2 := hlo.out k2 e2; omega)
            have hL6 := Lib.hid (hR6.flst0 rfl)
            clear hF hk6 hR6 hown6 hgrow6 hat6
            go_wp2_with fail
            go_roundg (4 - (k + 1))
            case measure => omega
            case rel => exact ⟨k + 1, _, _, _, by omega, rfl, rfl, hL6.out, hF1.out, hF2.out⟩
      · obtain rfl : k = 4 := by omega
        have hX := Lib.hid (show IOwn w80 w.heap.size (.slice Ao 4 co) (nats (gr.gm 4)) from hOh.out)
        go_wp2_with fail
        go_ret2
        exact ⟨_, rfl, hX.out, hBh.out⟩
end Go.Proofs.Ytaipdkfbkcknkaa
