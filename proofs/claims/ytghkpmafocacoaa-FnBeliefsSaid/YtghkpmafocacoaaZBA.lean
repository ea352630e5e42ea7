/- Parts of the proof: MB. -/
import Derived.Test.YtghkpmafocacoaaZAQ
namespace Go.Proofs.Ytghkpmafocacoaa
set_option maxRecDepth 100000
set_option linter.unusedVariables false
open Go.RowKit
theorem prG_take {ss : List Int} {k : Nat} {s : Int} (h : ss[k]? = some s) : prG (ss.take (k + 1)) = (prG (ss.take k)).bind fun g => addS g s := by
  obtain ⟨hl, he⟩ := List.getElem?_eq_some_iff.1 h
  unfold prG
  rw [List.take_succ_eq_append_getElem hl, List.foldl_append, he]
  rfl
theorem prG_none : ∀ (ss : List Int), ss.foldl (fun o s => o.bind fun g => addS g s) (none : Option Gr) = none
  | [] => rfl
  | s :: r => prG_none r
theorem prG_stop {ss : List Int} {k : Nat} (h : prG (ss.take k) = none) : prG ss = none := by
  have e : ss = ss.take k ++ ss.drop k := (List.take_append_drop k ss).symm
  rw [e]
  unfold prG at h ⊢
  rw [List.foldl_append, h, prG_none]
theorem prG_acy {ss : List Int} (h : ∀ s ∈ ss, ∃ a b : Fin 4, a ≠ b ∧ sa s = a.val ∧ sb s = b.val) : ∀ (k : Nat) {g : Gr}, prG (ss.take k) = some g → g.acy = true
  | 0, g, hg => by
    have : Gr.none_ = g := Option.some.inj (by simpa [prG] using hg)
    subst this
    exact none_ok.1
  | k + 1, g, hg => by
    cases hk : ss[k]? with
    | none =>
      have hl := List.getElem?_eq_none_iff.1 hk
      refine prG_acy h k (g := g) ?_
      rw [List.take_of_length_le (by omega)] at hg ⊢
      exact hg
    | some s =>
      rw [prG_take hk] at hg
      cases hq : prG (ss.take k) with
      | none => rw [hq] at hg; cases hg
      | some g0 =>
        rw [hq] at hg
        have ih := prG_acy h k hq
        have hg' : addS g0 s = some g := hg
        obtain ⟨a, b, hab, e1, e2⟩ := h s (List.mem_of_getElem? hk)
        unfold addS at hg'
        rw [e1, e2] at hg'
        by_cases hr : g0.root a.val = g0.root b.val
        · rw [if_pos hr] at hg'; cases hg'
        · rw [if_neg hr] at hg'
          obtain rfl := Option.some.inj hg'
          exact (put_acy g0 a b hab ih hr).1
/-- Four numbers. -/
def row4 (f : Nat → Int) : List Int := [f 0, f 1, f 2, f 3]
theorem row4_at (f : Nat → Int) {v : Nat} (hv : v ≤ 3) : (row4 f)[v]? = some (f v) := by
  obtain rfl | rfl | rfl | rfl : v = 0 ∨ v = 1 ∨ v = 2 ∨ v = 3 := by omega
  all_goals rfl
theorem row4_set (f : Nat → Int) {v : Nat} (hv : v ≤ 3) (x : Int) : (row4 f).set v x = row4 (fun u => if u = v then x else f u) := by
  obtain rfl | rfl | rfl | rfl : v = 0 ∨ v = 1 ∨ v = 2 ∨ v = 3 := by omega
  all_goals rfl
theorem row4_congr {f h : Nat → Int} (e : ∀ v, v ≤ 3 → f v = h v) : row4 f = row4 h := by
  unfold row4
  rw [e 0 (by decide), e 1 (by decide), e 2 (by decide), e 3 (by decide)]
def rtM (g : Gr) (lo hi k : Nat) : Nat → Int := fun u => if u < k ∧ g.root u = hi then (lo : Int) else (g.root u : Int)
theorem rtM_zero (g : Gr) (lo hi : Nat) : row4 (rtM g lo hi 0) = row4 (fun u => (g.root u : Int)) := row4_congr fun u _ => by unfold rtM; rw [if_neg (by omega)]
theorem rtM_yes {g : Gr} {lo hi k : Nat} (hk : k ≤ 3) (h : g.root k = hi) : (row4 (rtM g lo hi k)).set k (lo : Int) = row4 (rtM g lo hi (k + 1)) := by
  rw [row4_set _ hk]
  refine row4_congr fun u _ => ?_
  unfold rtM
  by_cases e : u = k
  · rw [if_pos e, if_pos ⟨by omega, by rw [e]; exact h⟩]
  · rw [if_neg e]
    by_cases e2 : u < k ∧ g.root u = hi
    · rw [if_pos e2, if_pos ⟨by omega, e2.2⟩]
    · rw [if_neg e2, if_neg (fun q => e2 ⟨by omega, q.2⟩)]
theorem rtM_no {g : Gr} {lo hi k : Nat} (h : g.root k ≠ hi) : row4 (rtM g lo hi k) = row4 (rtM g lo hi (k + 1)) := row4_congr fun u _ => by
  unfold rtM
  by_cases e2 : u < k ∧ g.root u = hi
  · rw [if_pos e2, if_pos ⟨by omega, e2.2⟩]
  · rw [if_neg e2, if_neg (fun q => by
      by_cases e : u = k
      · subst e; exact h q.2
      · exact e2 ⟨by omega, q.2⟩)]
theorem iown_set {w : World} {base g c k : Nat} {ds : List Int} (h : IOwn w base (.slice (some ⟨g, 0, none⟩) ds.length c) ds) (hk : k < ds.length) (x : Int) : IOwn (w.setCell ⟨g, k, none⟩ (.int .i64 x)) base (.slice (some ⟨g, 0, none⟩) ds.length c) (ds.set k x) := by
  unfold IOwn at h ⊢
  rw [List.length_set]
  exact owns_set h hk
theorem iown_cell {w : World} {base g c k : Nat} {ds : List Int} {d : Int} (h : IOwn w base (.slice (some ⟨g, 0, none⟩) ds.length c) ds) (hk : ds[k]? = some d) : w.cell? ⟨g, k, none⟩ = some (.int .i64 d) ∧ w.frozen? ⟨g, k, none⟩ = false ∧ base ≤ g := by
  have hl := (List.getElem?_eq_some_iff.1 hk).1
  obtain ⟨b, cur, e, hb, hh, _, _, _, hc⟩ := owns_open h (by omega)
  injection e with e
  injection e with e _ _
  subst e
  exact ⟨(hc k (by omega)).trans (ints_get hk), hh.frozen k, hb⟩
def TrsD (w : World) (ss : List Int) (e : Ending) (w' : World) : Prop := ∃ (v : Value) (ds : List Int), e = .returned (.tuple #[v, .bool (prG ss).isSome]) ∧ IOwn w' w.heap.size v ds ∧ (∀ g, prG ss = some g → ds = row4 (fun u => (g.root u : Int))) ∧ Below w.heap.size w w'
set_option maxHeartbeats 2000000 in
theorem l10Trees_any (A : Option Addr) (n c : Nat) (Fs : List Fac) (w : World) (h : FLst w w.heap.size A n Fs) (hn : n ≤ 1000) (hF : ∀ F ∈ Fs, facOk 9 F = true) :
    Calls Try.prog 144 #[.slice A n c] w (TrsD w (prsL Fs)) := by
  have hB0 : Below w.heap.size w (w.alloc (.cells #[] 3)) := (Below.refl _ _).alloc (Nat.le_refl _) _
  have hN := Lib.hid (show IOwn (w.alloc (.cells #[] 3)) w.heap.size (.slice (some ⟨w.heap.size, 0, none⟩) 0 0) [] from
    ⟨rfl, .inr ⟨w.heap.size, 0, #[], rfl, Nat.le_refl _, Has.new w _ _, Nat.le_refl _, Nat.zero_le _, rfl, rfl⟩⟩)
  obtain ⟨i0, hi0, hz0, hz1', hz2'⟩ := info_parts info_int
  have cP := Lib.hid (fun wx hx => l10Pairs_any A n c Fs wx hx hn hF)
  have hI := Lib.hid h
  have hmem := Lib.hid (fun s (hs : s ∈ prsL Fs) => prsL_mem hF hs)
  have hlen := Lib.hid (show (prsL Fs).length ≤ 1000 from by
    have h1 := prsL_len Fs n
    rw [List.take_of_length_le (by have := h.1; omega)] at h1
    omega)
  have hac := Lib.hid (fun k g (hq : prG ((prsL Fs).take k) = some g) => prG_acy (fun s hs => by obtain ⟨_, F, _, _, _, a, b, h1, _, h2, h3⟩ := prsL_mem hF hs; exact ⟨a, b, h1, h2, h3⟩) k hq)
  clear h
  go_enter Try.func144, Try.ntmps144
  go_wp2_with fail
  go_loopg [4, 5] 4 (fun gn o v wr => ∃ k : Nat, k ≤ 4 ∧ gn = 4 - k ∧ v = .int .i64 k ∧ IOwn wr w.heap.size o ((List.range k).map fun (u : Nat) => (u : Int)) ∧ Below w.heap.size w wr)
  case atStart => exact ⟨0, Nat.zero_le _, rfl, rfl, hN.out, hB0⟩
  case round =>
    obtain ⟨k, hk, hgn, rfl, hO, hb⟩ := hrel
    have hgk : gk = 4 - k := hgn
    obtain ⟨Ao, co, hvo, _, _⟩ := hO.form
    subst hvo
    have hz := hb.size
    have hOh := Lib.hid hO
    have hbh := Lib.hid hb
    have hol : ((List.range k).map fun (u : Nat) => (u : Int)).length ≤ 4 := by rw [List.length_map, List.length_range]; exact hk
    clear hgn hO hb hN hB0
    by_cases hlt : k < 4
    · have hk0 : (0 : Int) ≤ (k : Int) := by omega
      have hk4 : (k : Int) < 4 := by omega
      have hE := Lib.hid (show ((List.range (k + 1)).map fun (u : Nat) => (u : Int)) = ((List.range k).map fun (u : Nat) => (u : Int)) ++ [(k : Int)] by rw [List.range_succ, List.map_append]; rfl)
      have hO3 := Lib.hid (hOh.out.alloc (.cells #[.int .i64 k] 3))
      have hnw := Lib.hid (new_one wr (.int .i64 k) 3)
      have hB3 := Lib.hid (hbh.out.alloc hz (.cells #[.int .i64 k] 3))
      generalize ((List.range k).map fun (u : Nat) => (u : Int)) = ds at *
      go_wp2_with (at_builtin; refine wpList_append_lies _ rfl (.tmp 18) (.tmp 20) 31 rfl w.heap.size 3 i0 _ 1 8 Try.underlying31 hi0 hz0 hz1' hz2' rfl (by decide) (.slice Ao ds.length co) ds.length (ints ds) rfl (by exact hO3.out) ⟨wr.heap.size, 0, none⟩ 1 1 [.int .i64 k] rfl rfl (by exact hnw.out) (by simp [Value.oneCell']) (by omega) (by unfold maxLen; omega) (by omega) (by exact hB3.out.size) (wr.heap.size + 1) (by simp) ?_; intro gr cr2 w4 hown4 hgrow4 hat4 hlt4)
      have hA := Lib.hid (IOwn.append_ (news := [(k : Int)]) hO3.out hown4 hgrow4 hB3.out (by exact hB3.out.size))
      clear hown4 hgrow4 hat4
      go_wp2_with fail
      go_roundg (4 - (k + 1))
      case measure => omega
      case rel => exact ⟨k + 1, by omega, rfl, by go_num, by rw [hE.out]; exact hA.out.1, hA.out.2⟩
    · obtain rfl : k = 4 := by omega
      have hrow : ((List.range 4).map fun (u : Nat) => (u : Int)) = row4 (fun u => (Gr.none_.root u : Int)) := by
        rw [row4_congr (h := fun u => (u : Int)) (fun v hv => by rw [(none_ok.2.2 ⟨v, by omega⟩).1])]
        rfl
      rw [hrow] at hOh ⊢
      obtain ⟨go, cur, hvo, hgo, _, _, _, _, _⟩ := owns_open hOh.out (by decide)
      have hAo : Ao = some ⟨go, 0, none⟩ := hvo
      subst hAo
      have hlr : (row4 (fun u => (Gr.none_.root u : Int))).length = 4 := rfl
      rw [hlr] at hOh ⊢
      clear hrow hvo hlr
      go_wp2_with fail
      refine (cP.out wr ((hI.out.below hbh.out).more hz)).mono ?_
      rintro e w5 ⟨vp, rfl, hvp, hb5⟩
      obtain ⟨Ap, cp, hvf, _, _⟩ := IOwn.form hvp
      subst hvf
      have hPr := Lib.hid (owns_le hvp hz)
      have hD := Lib.hid (show ∀ i, (Value.slice Ap (prsL Fs).length cp).ownBlock = some i → i ≠ go from fun i h1 => by
        have e1 := (World.ownsRow.lt hvp i h1).1
        have e2 := (World.ownsRow.lt hOh.out go rfl).2
        omega)
      have hO5 := Lib.hid (hOh.out.below hb5)
      have hB5 := Lib.hid (hbh.out.trans (hb5.mono hz))
      have hls := hlen.out
      clear hvp hb5 hOh hbh cP hlen
      generalize prsL Fs = ss at *
      have hst0 := Lib.hid (show prG (ss.take 0) = some Gr.none_ from rfl)
      go_wp2_with fail
      go_loopg [7] ss.length (fun gn i wr => ∃ (k : Nat) (g : Gr), k ≤ ss.length ∧ gn = ss.length - k ∧ i = .int .i64 k ∧ prG (ss.take k) = some g ∧ IOwn wr w.heap.size (.slice (some ⟨go, 0, none⟩) 4 co) (row4 (fun u => (g.root u : Int))) ∧ IOwn wr w.heap.size (.slice Ap ss.length cp) ss ∧ Below w.heap.size w wr)
      case atStart => exact ⟨0, Gr.none_, Nat.zero_le _, rfl, rfl, hst0.out, hO5.out, hPr.out, hB5.out⟩
      case round =>
        obtain ⟨k, g, hk, hgn, rfl, hg, hO, hP, hB⟩ := hrel
        have hgk : gk = ss.length - k := hgn
        have hgh := Lib.hid hg
        have hOk := Lib.hid hO
        have hPk := Lib.hid hP
        have hBk := Lib.hid hB
        have hz6 := hB.size
        clear hgn hg hO hP hB hO5 hPr hB5 hst0
        by_cases hlt : k < ss.length
        · obtain ⟨gp, op, s, rfl, hgl, hs, cs⟩ := (IOwn.lst hPk.out).at_ hlt
          have hk0 : (0 : Int) ≤ (k : Int) := by omega
          have hk1 : (k : Int) < (ss.length : Int) := by omega
          obtain ⟨hs15, F, hFm, hF2, hse, a, b, hab, hov, hsa, hsb⟩ := hmem.out s (List.mem_of_getElem? hs)
          clear hse hF2
          have hnx0 := prG_take hs
          rw [hgh.out] at hnx0
          have hnx1 : prG (ss.take (k + 1)) = addS g s := hnx0
          have cV := Lib.hid (fun wx => l8Over_any s wx hs15)
          rw [hov] at cV
          have hacy : g.acy = true := hac.out k g hgh.out
          have hput := Lib.hid (put_acy g a b hab hacy)
          obtain ⟨a, ha⟩ := a
          obtain ⟨b, hb⟩ := b
          simp only at hsa hsb cV hput
          have ha0 : (0 : Int) ≤ (a : Int) := by omega
          have ha4 : (a : Int) < 4 := by omega
          have hb0 : (0 : Int) ≤ (b : Int) := by omega
          have hb4 : (b : Int) < 4 := by omega
          have hadd : addS g s = if g.root a = g.root b then none else some (g.put a b) := by unfold addS; rw [hsa, hsb]
          have hab3 := And.intro (root_le g ⟨a, ha⟩).1 (root_le g ⟨b, hb⟩).1
          simp only at hab3
          have hsah := Lib.hid hsa
          have hsbh := Lib.hid hsb
          have hnx1h := Lib.hid hnx1
          have haddh := Lib.hid hadd
          clear hnx0 hov hab hFm hs hacy hsa hsb hnx1 hadd
          go_wp2_with fail
          refine (cV.out wr).mono ?_
          rintro e w6 ⟨v6, rfl, hv6, hb6⟩
          obtain ⟨A6, c6, hvf6, _, _⟩ := IOwn.form hv6
          subst hvf6
          have hl6 : ([(a : Int), (b : Int)] : List Int).length = 2 := rfl
          rw [hl6] at hv6 ⊢
          obtain ⟨g6, cur6, hA6, _, _, _, _, _, hc6⟩ := owns_open hv6 (by decide)
          subst hA6
          have d0 := (hc6 0 (by decide)).trans (ints_get (ds := [(a : Int), (b : Int)]) (k := 0) rfl)
          have d1 := (hc6 1 (by decide)).trans (ints_get (ds := [(a : Int), (b : Int)]) (k := 1) rfl)
          have hO7 := Lib.hid (hOk.out.below hb6)
          have hP7 := Lib.hid (hPk.out.below hb6)
          have hB7 := Lib.hid (hBk.out.trans (hb6.mono hz6))
          have ca := (iown_cell (ds := row4 (fun u => (g.root u : Int))) hO7.out (row4_at _ (v := a) (by omega))).1
          have cb := (iown_cell (ds := row4 (fun u => (g.root u : Int))) hO7.out (row4_at _ (v := b) (by omega))).1
          clear hc6 hv6 hb6 hOk hPk hBk cs hl6
          by_cases hxy : g.root a = g.root b
          · have hstop := Lib.hid (show prG ss = none from prG_stop (k := k + 1) (by rw [hnx1h.out, haddh.out, if_pos hxy]))
            rw [← hxy] at cb
            clear hput hab3 hxy
            generalize g.root a = x at ca cb
            go_wp2_with fail
            go_ret2
            exact ⟨_, _, by rw [hstop.out]; rfl, hO7.out, (by intro g' hg'; rw [hstop.out] at hg'; cases hg'), hB7.out⟩
          have hnx := Lib.hid (show prG (ss.take (k + 1)) = some (g.put (sa s) (sb s)) by rw [hnx1h.out, haddh.out, if_neg hxy, hsah.out, hsbh.out])
          have hnew := Lib.hid (fun u (hu : u ≤ 3) => (show ((g.put (sa s) (sb s)).root u) = if g.root u = max (g.root a) (g.root b) then min (g.root a) (g.root b) else g.root u from by
            have := (hput.out hxy).2 ⟨u, by omega⟩
            rw [hsah.out, hsbh.out]
            exact this))
          clear hput
          rcases (show g.root a < g.root b ∨ g.root b < g.root a by omega) with hlt2 | hlt2
          · have hn1 : ¬ g.root b < g.root a := by omega
            have hne : ((g.root a : Int) == (g.root b : Int)) = false := by rw [beq_eq_false_iff_ne]; omega
            have hnew2 := Lib.hid (fun u hu => hnew.out u hu)
            obtain ⟨x, hx⟩ : ∃ x, g.root a = x := ⟨_, rfl⟩
            obtain ⟨y, hy⟩ : ∃ y, g.root b = y := ⟨_, rfl⟩
            rw [hx] at ca hne hlt2 hab3
            rw [hy] at cb hne hlt2 hab3
            rw [hx, hy] at hn1
            have hxh := Lib.hid hx
            have hyh := Lib.hid hy
            clear hx hy hxy
            go_wp2_with fail
            obtain ⟨k0, rfl⟩ : ∃ q, q = k := ⟨_, rfl⟩
            obtain ⟨w3, rfl⟩ : ∃ q : World, q = wr := ⟨_, rfl⟩
            obtain ⟨g3, rfl⟩ : ∃ q, q = gk := ⟨_, rfl⟩
            go_loopg [12] 4 (fun gn i wr => ∃ v : Nat, v ≤ 4 ∧ gn = 4 - v ∧ i = .int .i64 v ∧ IOwn wr w.heap.size (.slice (some ⟨go, 0, none⟩) 4 co) (row4 (rtM g x y v)) ∧ IOwn wr w.heap.size (.slice (some ⟨gp, op, none⟩) ss.length cp) ss ∧ Below w.heap.size w wr)
            case atStart => exact ⟨0, by omega, rfl, rfl, by rw [rtM_zero]; exact hO7.out, hP7.out, hB7.out⟩
            case round =>
              obtain ⟨v, hv, hgn, rfl, hO, hP, hB⟩ := hrel
              have hgv : gk = 4 - v := hgn
              have hOv := Lib.hid hO
              have hPv := Lib.hid hP
              have hBv := Lib.hid hB
              clear hgn hO hP hB hO7 hP7 hB7
              by_cases hlv : v < 4
              · have hv0 : (0 : Int) ≤ (v : Int) := by omega
                have hv4 : (v : Int) < 4 := by omega
                have hrv : rtM g x y v v = (g.root v : Int) := by unfold rtM; rw [if_neg (by omega)]
                obtain ⟨cv, fv, _⟩ := iown_cell (ds := row4 (rtM g x y v)) hOv.out (row4_at _ (v := v) (by omega))
                rw [hrv] at cv
                by_cases he : g.root v = y
                · rw [he] at cv
                  have hN := Lib.hid (show IOwn (wr.setCell ⟨go, v, none⟩ (.int .i64 x)) w.heap.size (.slice (some ⟨go, 0, none⟩) 4 co) (row4 (rtM g x y (v + 1))) from by rw [← rtM_yes (by omega) he]; exact iown_set (ds := row4 (rtM g x y v)) hOv.out (show v < 4 from hlv) _)
                  have hPn := Lib.hid (IOwn.but hPv.out ((KeptBut.refl wr (fun i => i = go)).put (p := ⟨go, v, none⟩) (fun _ => rfl) (.int .i64 x)) (fun k h1 h2 => hD.out k h1 h2))
                  have hBn := Lib.hid (hBv.out.setCell (p := ⟨go, v, none⟩) hgo (.int .i64 x))
                  clear he
                  go_wp2_with fail
                  go_roundg (4 - (v + 1))
                  case measure => omega
                  case rel => exact ⟨v + 1, by omega, rfl, by go_num, hN.out, hPn.out, hBn.out⟩
                · have hN := Lib.hid (show IOwn wr w.heap.size (.slice (some ⟨go, 0, none⟩) 4 co) (row4 (rtM g x y (v + 1))) from by rw [← rtM_no he]; exact hOv.out)
                  have heb : ((g.root v : Int) == (y : Int)) = false := by rw [beq_eq_false_iff_ne]; omega
                  have heh := Lib.hid he
                  clear he
                  generalize g.root v = z at cv heb
                  go_wp2_with fail
                  go_roundg (4 - (v + 1))
                  case measure => omega
                  case rel => exact ⟨v + 1, by omega, rfl, by go_num, hN.out, hPv.out, hBv.out⟩
              · obtain rfl : v = 4 := by omega
                have hE := Lib.hid (show IOwn wr w.heap.size (.slice (some ⟨go, 0, none⟩) 4 co) (row4 (fun u => ((g.put (sa s) (sb s)).root u : Int))) from by
                  have h1 := hOv.out
                  rwa [row4_congr (h := fun u => ((g.put (sa s) (sb s)).root u : Int)) (fun u hu => by
                    have h3 := hnew.out u hu
                    have e1 := hxh.out
                    have e2 := hyh.out
                    unfold rtM
                    rw [h3]
                    by_cases e : g.root u = y
                    · rw [if_pos ⟨by omega, e⟩, if_pos (by omega)]
                      omega
                    · rw [if_neg (fun q => e q.2), if_neg (by omega)])] at h1)
                go_wp2_with fail
                go_roundg (ss.length - (k0 + 1))
                case measure => omega
                case rel => exact ⟨k0 + 1, g.put (sa s) (sb s), by omega, rfl, by go_num, hnx.out, hE.out, hPv.out, hBv.out⟩
          · have hne : ((g.root a : Int) == (g.root b : Int)) = false := by rw [beq_eq_false_iff_ne]; omega
            have hnew2 := Lib.hid (fun u hu => hnew.out u hu)
            obtain ⟨x, hx⟩ : ∃ x, g.root a = x := ⟨_, rfl⟩
            obtain ⟨y, hy⟩ : ∃ y, g.root b = y := ⟨_, rfl⟩
            rw [hx] at ca hne hlt2 hab3
            rw [hy] at cb hne hlt2 hab3
            have hxh := Lib.hid hx
            have hyh := Lib.hid hy
            clear hx hy hxy
            go_wp2_with fail
            obtain ⟨k0, rfl⟩ : ∃ q, q = k := ⟨_, rfl⟩
            obtain ⟨w3, rfl⟩ : ∃ q : World, q = wr := ⟨_, rfl⟩
            obtain ⟨g3, rfl⟩ : ∃ q, q = gk := ⟨_, rfl⟩
            go_loopg [12] 4 (fun gn i wr => ∃ v : Nat, v ≤ 4 ∧ gn = 4 - v ∧ i = .int .i64 v ∧ IOwn wr w.heap.size (.slice (some ⟨go, 0, none⟩) 4 co) (row4 (rtM g y x v)) ∧ IOwn wr w.heap.size (.slice (some ⟨gp, op, none⟩) ss.length cp) ss ∧ Below w.heap.size w wr)
            case atStart => exact ⟨0, by omega, rfl, rfl, by rw [rtM_zero]; exact hO7.out, hP7.out, hB7.out⟩
            case round =>
              obtain ⟨v, hv, hgn, rfl, hO, hP, hB⟩ := hrel
              have hgv : gk = 4 - v := hgn
              have hOv := Lib.hid hO
              have hPv := Lib.hid hP
              have hBv := Lib.hid hB
              clear hgn hO hP hB hO7 hP7 hB7
              by_cases hlv : v < 4
              · have hv0 : (0 : Int) ≤ (v : Int) := by omega
                have hv4 : (v : Int) < 4 := by omega
                have hrv : rtM g y x v v = (g.root v : Int) := by unfold rtM; rw [if_neg (by omega)]
                obtain ⟨cv, fv, _⟩ := iown_cell (ds := row4 (rtM g y x v)) hOv.out (row4_at _ (v := v) (by omega))
                rw [hrv] at cv
                by_cases he : g.root v = x
                · rw [he] at cv
                  have hN := Lib.hid (show IOwn (wr.setCell ⟨go, v, none⟩ (.int .i64 y)) w.heap.size (.slice (some ⟨go, 0, none⟩) 4 co) (row4 (rtM g y x (v + 1))) from by rw [← rtM_yes (by omega) he]; exact iown_set (ds := row4 (rtM g y x v)) hOv.out (show v < 4 from hlv) _)
                  have hPn := Lib.hid (IOwn.but hPv.out ((KeptBut.refl wr (fun i => i = go)).put (p := ⟨go, v, none⟩) (fun _ => rfl) (.int .i64 y)) (fun k h1 h2 => hD.out k h1 h2))
                  have hBn := Lib.hid (hBv.out.setCell (p := ⟨go, v, none⟩) hgo (.int .i64 y))
                  clear he
                  go_wp2_with fail
                  go_roundg (4 - (v + 1))
                  case measure => omega
                  case rel => exact ⟨v + 1, by omega, rfl, by go_num, hN.out, hPn.out, hBn.out⟩
                · have hN := Lib.hid (show IOwn wr w.heap.size (.slice (some ⟨go, 0, none⟩) 4 co) (row4 (rtM g y x (v + 1))) from by rw [← rtM_no he]; exact hOv.out)
                  have heb : ((g.root v : Int) == (x : Int)) = false := by rw [beq_eq_false_iff_ne]; omega
                  have heh := Lib.hid he
                  clear he
                  generalize g.root v = z at cv heb
                  go_wp2_with fail
                  go_roundg (4 - (v + 1))
                  case measure => omega
                  case rel => exact ⟨v + 1, by omega, rfl, by go_num, hN.out, hPv.out, hBv.out⟩
              · obtain rfl : v = 4 := by omega
                have hE := Lib.hid (show IOwn wr w.heap.size (.slice (some ⟨go, 0, none⟩) 4 co) (row4 (fun u => ((g.put (sa s) (sb s)).root u : Int))) from by
                  have h1 := hOv.out
                  rwa [row4_congr (h := fun u => ((g.put (sa s) (sb s)).root u : Int)) (fun u hu => by
                    have h3 := hnew.out u hu
                    have e1 := hxh.out
                    have e2 := hyh.out
                    unfold rtM
                    rw [h3]
                    by_cases e : g.root u = x
                    · rw [if_pos ⟨by omega, e⟩, if_pos (by omega)]
                      omega
                    · rw [if_neg (fun q => e q.2), if_neg (by omega)])] at h1)
                go_wp2_with fail
                go_roundg (ss.length - (k0 + 1))
                case measure => omega
                case rel => exact ⟨k0 + 1, g.put (sa s) (sb s), by omega, rfl, by go_num, hnx.out, hE.out, hPv.out, hBv.out⟩
        · obtain rfl : k = ss.length := by omega
          have hfull : ss.take ss.length = ss := List.take_of_length_le (Nat.le_refl _)
          have hgf := Lib.hid (show prG ss = some g by rw [← hfull]; exact hgh.out)
          clear hfull
          go_wp2_with fail
          go_ret2
          exact ⟨_, _, by rw [hgf.out]; rfl, hOk.out, (by intro g' hg'; rw [hgf.out] at hg'; obtain rfl := Option.some.inj hg'; rfl), hBk.out⟩
end Go.Proofs.Ytghkpmafocacoaa
