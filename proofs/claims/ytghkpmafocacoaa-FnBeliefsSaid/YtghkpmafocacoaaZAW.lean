/- Parts of the proof: LA. -/
import Derived.Test.YtghkpmafocacoaaZAV
import Derived.Test.YtghkpmafocacoaaZAC
namespace Go.Proofs.Ytghkpmafocacoaa
set_option maxRecDepth 100000
set_option linter.unusedVariables false
open Go.RowKit
def csI (l : List Nat) : List Int := l.map fun (n : Nat) => (n : Int)
theorem csI_len (l : List Nat) : (csI l).length = l.length := List.length_map _
theorem csI_app (a b : List Nat) : csI (a ++ b) = csI a ++ csI b := List.map_append
/-- Branches as cells. -/
def brC (l : List (Nat × Nat)) : List Value := l.flatMap fun p => [.int .i64 (p.1 : Int), .int .i64 (p.2 : Int)]
theorem brC_len (l : List (Nat × Nat)) : (brC l).length = l.length * 2 := by
  induction l with
  | nil => rfl
  | cons p r ih =>
    have e : brC (p :: r) = .int .i64 (p.1 : Int) :: .int .i64 (p.2 : Int) :: brC r := rfl
    rw [e, List.length_cons, List.length_cons, List.length_cons, ih]
    omega
theorem brC_app (a b : List (Nat × Nat)) : brC (a ++ b) = brC a ++ brC b := List.flatMap_append
theorem brC_at {l : List (Nat × Nat)} {k : Nat} {p : Nat × Nat} (h : l[k]? = some p) : (brC l)[k * 2]? = some (.int .i64 (p.1 : Int)) ∧ (brC l)[k * 2 + 1]? = some (.int .i64 (p.2 : Int)) := by
  induction l generalizing k with
  | nil => simp at h
  | cons q r ih =>
    have e : brC (q :: r) = .int .i64 (q.1 : Int) :: .int .i64 (q.2 : Int) :: brC r := rfl
    cases k with
    | zero =>
      obtain rfl : q = p := by simpa using h
      exact ⟨rfl, rfl⟩
    | succ k =>
      have h2 := ih (by simpa using h)
      rw [e, show (k + 1) * 2 = k * 2 + 2 by omega]
      exact h2
def rootsT (g : Gr) (k : Nat) : List Nat := (List.range k).filter fun v => g.root v == v
theorem rootsT_succ (g : Gr) (k : Nat) : rootsT g (k + 1) = rootsT g k ++ if g.root k = k then [k] else [] := by
  unfold rootsT
  rw [List.range_succ, List.filter_append]
  congr 1
  by_cases h : g.root k = k
  · rw [if_pos h, List.filter_cons_of_pos (by simp [h])]; rfl
  · rw [if_neg h, List.filter_cons_of_neg (by simp [h])]; rfl
theorem rootsT_len (g : Gr) (k : Nat) : (rootsT g k).length ≤ k := by
  unfold rootsT
  exact Nat.le_trans (List.length_filter_le _ _) (by rw [List.length_range]; exact Nat.le_refl _)
theorem far_over : ∀ n m : Fin 16, over (bdf (n.val : Int) (m.val : Int)) = csI (bitsN (n.val &&& (15 - m.val))) ∧ (0 ≤ bdf (n.val : Int) (m.val : Int) ∧ bdf (n.val : Int) (m.val : Int) ≤ 15) ∧ (bitsN (n.val &&& (15 - m.val))).length ≤ 4 := by decide +kernel
theorem brs_small (g : Gr) : g.acy = true → ∀ k : Fin 5, (∀ v ∈ (g.brs k.val).path, v ≤ 3) ∧ (g.brs k.val).passed ≤ 15 ∧ (g.brs k.val).list.length ≤ 3 ∧ (∀ p ∈ (g.brs k.val).list, p.1 ≤ 3 ∧ p.2 ≤ 3) :=
  gr_all (P := fun g => g.acy = true → ∀ k : Fin 5, (∀ v ∈ (g.brs k.val).path, v ≤ 3) ∧ (g.brs k.val).passed ≤ 15 ∧ (g.brs k.val).list.length ≤ 3 ∧ (∀ p ∈ (g.brs k.val).list, p.1 ≤ 3 ∧ p.2 ≤ 3)) (by decide +kernel) g
theorem info_branch : (Try.prog.info? 138).map (fun i => (i.zero, i.size, i.bytes)) = some (some (.agg #[.int .i64 0, .int .i64 0]), 2, 16) := by kernel_rfl
theorem new_two (w : World) (x y : Value) (t : TypeId) : ∀ j u, [x, y][j]? = some u → (w.alloc (.cells #[x, y] t)).cell? ((⟨w.heap.size, 0, none⟩ : Addr).add j) = some u := by
  intro j u hu
  have h := (Has.new w t #[x, y]).cell j
  have hj : j = 0 ∨ j = 1 := by
    have := (List.getElem?_eq_some_iff.1 hu).1
    simp at this; omega
  rcases hj with rfl | rfl
  · rw [show (⟨w.heap.size, 0, none⟩ : Addr).add 0 = ⟨w.heap.size, 0, none⟩ by unfold Addr.add; rfl]
    rw [h]; exact hu
  · rw [show (⟨w.heap.size, 0, none⟩ : Addr).add 1 = ⟨w.heap.size, 1, none⟩ by unfold Addr.add; simp]
    rw [h]; exact hu
theorem owns_ne {w : World} {base base' size size' n n' : Nat} {e e' : TypeId} {v v' : Value} {xs xs' : List Value} (h : w.ownsRow base e size v n xs) (h' : w.ownsRow base' e' size' v' n' xs') (he : e ≠ e') (k : Nat) (hk : v.ownBlock = some k) (hk' : v'.ownBlock = some k) : False := by
  obtain ⟨c1, g1⟩ := owns_has h hk
  obtain ⟨c2, g2⟩ := owns_has h' hk'
  exact has_ne g1 g2 he rfl
theorem bitN_nat {a : Nat} (ha : a ≤ 3) : bitN (a : Int) = ((2 ^ a : Nat) : Int) ∧ 2 ^ a ≤ 8 := by
  obtain rfl | rfl | rfl | rfl : a = 0 ∨ a = 1 ∨ a = 2 ∨ a = 3 := by omega
  all_goals exact ⟨rfl, by decide⟩
/-- The branches so far: the list, the path, in rows of the call's own. -/
structure BrI (w wr : World) (G : Nat) (f : Fo) (s : Brs) (v3 v4 : Value) : Prop where
  fo : FoW wr G f
  ls : wr.ownsRow w.heap.size 138 2 v3 s.list.length (brC s.list)
  pt : IOwn wr w.heap.size v4 (csI s.path)
  be : Below w.heap.size w wr
set_option maxHeartbeats 2000000 in
theorem branches_any (G : Nat) (f : Fo) (g : Gr) (w : World) (h : FoW w G f) (hr : ∀ v, v ≤ 3 → f.root v = (g.root v : Int)) (hp : f.prs = (g.prs : Int)) (ha : g.acy = true) :
    Calls Try.prog 141 #[.pointer (some ⟨G, 0, none⟩)] w fun e w' => ∃ v, e = .returned v ∧ w'.ownsRow w.heap.size 138 2 v (g.brs 4).list.length (brC (g.brs 4).list) ∧ Below w.heap.size w w' := by
  obtain ⟨i0, hi0, hz0, hz1', hz2'⟩ := info_parts info_int
  obtain ⟨i9, hi9, hy0, hy1', hy2'⟩ := info_parts info_branch
  have hG := Has.lt h
  have r0 := (h.root_cell (v := 0) (by decide) (i := 12) rfl).trans (by rw [hr 0 (by decide)])
  have r1 := (h.root_cell (v := 1) (by decide) (i := 13) rfl).trans (by rw [hr 1 (by decide)])
  have r2 := (h.root_cell (v := 2) (by decide) (i := 14) rfl).trans (by rw [hr 2 (by decide)])
  have r3 := (h.root_cell (v := 3) (by decide) (i := 15) rfl).trans (by rw [hr 3 (by decide)])
  have hFh := Lib.hid h
  have hix := Lib.hid (fun q (hq : q < 4) wx => index_R4 (fun v => (g.root v : Int)) hq wx)
  have cN := Lib.hid (fun (v : Int) wx hx => nextTo_any G f g v wx hx hp)
  have cB := Lib.hid (fun (v : Int) wx => bitOf_any v wx)
  have cV := Lib.hid (fun L wx hL => varsIn_any L wx hL)
  have hbe := Lib.hid (brs_end g ha)
  have hbs := Lib.hid (brs_small g ha)
  have hN := Lib.hid (IOwn.nil w w.heap.size)
  have hL0 := Lib.hid (World.ownsRow_nil w w.heap.size 138 2)
  clear h hr hp
  go_enter Try.func141, Try.ntmps141
  go_wp2_with fail
  clear r0 r1 r2 r3
  go_loopg [4, 16] 4 (fun gn v4 i wr => ∃ k : Nat, k ≤ 4 ∧ gn = 4 - k ∧ i = .int .i64 k ∧ FoW wr G f ∧ IOwn wr w.heap.size v4 (csI (rootsT g k)) ∧ Below w.heap.size w wr)
  case atStart => exact ⟨0, by omega, rfl, rfl, hFh.out, hN.out, Below.refl _ _⟩
  case round =>
    obtain ⟨k, hk, hgn, rfl, hF, hO, hB⟩ := hrel
    have hgk : gk = 4 - k := hgn
    obtain ⟨Ao, co, hvo, _, _⟩ := hO.form
    subst hvo
    have hFk := Lib.hid hF
    have hOk := Lib.hid hO
    have hBk := Lib.hid hB
    have hol : (csI (rootsT g k)).length ≤ 4 := by rw [csI_len]; have := rootsT_len g k; omega
    have hz := hB.size
    clear hgn hF hO hB hN hFh
    by_cases hlt : k < 4
    · have hk0 : (0 : Int) ≤ (k : Int) := by omega
      have hk4 : (k : Int) < 4 := by omega
      have hi4 := hix.out k hlt
      have hst := Lib.hid (rootsT_succ g k)
      by_cases he : g.root k = k
      · rw [he] at hi4
        have hE := Lib.hid (show csI (rootsT g (k + 1)) = csI (rootsT g k) ++ [(k : Int)] by rw [hst.out, if_pos he, csI_app]; rfl)
        have hO3 := Lib.hid (hOk.out.alloc (.cells #[.int .i64 k] 3))
        have hnw := Lib.hid (new_one wr (.int .i64 k) 3)
        have hB3 := Lib.hid (hBk.out.alloc hz (.cells #[.int .i64 k] 3))
        have hF3 := Lib.hid (hFk.out.alloc (.cells #[.int .i64 k] 3))
        clear he
        generalize csI (rootsT g k) = ds at *
        go_wp2_with (at_builtin; refine wpList_append_lies _ rfl (.tmp 23) (.tmp 25) 31 rfl w.heap.size 3 i0 _ 1 8 Try.underlying31 hi0 hz0 hz1' hz2' rfl (by decide) (.slice Ao ds.length co) ds.length (ints ds) rfl (by exact hO3.out) ⟨wr.heap.size, 0, none⟩ 1 1 [.int .i64 k] rfl rfl (by exact hnw.out) (by simp [Value.oneCell']) (by omega) (by unfold maxLen; omega) (by omega) (by exact hB3.out.size) (wr.heap.size + 1) (by simp) ?_; intro gr cr2 w4 hown4 hgrow4 hat4 hlt4)
        have hA := Lib.hid (IOwn.append_ (news := [(k : Int)]) hO3.out hown4 hgrow4 hB3.out (by exact hB3.out.size))
        have hF4 := Lib.hid (hFk.out.but (grown_but hgrow4) (fun e => by have := (World.ownsRow.lt hOk.out G e).1; omega))
        clear hown4 hgrow4 hat4
        go_wp2_with fail
        go_roundg (4 - (k + 1))
        case measure => omega
        case rel => exact ⟨k + 1, by omega, rfl, by go_num, hF4.out, by rw [hE.out]; exact hA.out.1, hA.out.2⟩
      · have hE := Lib.hid (show csI (rootsT g (k + 1)) = csI (rootsT g k) by rw [hst.out, if_neg he, List.append_nil])
        have heb : ((g.root k : Int) == (k : Int)) = false := by rw [beq_eq_false_iff_ne]; omega
        have heh := Lib.hid he
        clear he
        generalize g.root k = z at hi4 heb
        go_wp2_with fail
        go_roundg (4 - (k + 1))
        case measure => omega
        case rel => exact ⟨k + 1, by omega, rfl, by go_num, hFk.out, by rw [hE.out]; exact hOk.out, hBk.out⟩
    · obtain rfl : k = 4 := by omega
      go_wp2_with fail
      have hb0 : (rootsT g 4) = (g.brs 0).path := rfl
      rw [hb0] at hOk
      have hI0 := Lib.hid (show BrI w wr G f (g.brs 0) (.slice none 0 0) (.slice Ao (csI (g.brs 0).path).length co) from ⟨hFk.out, owns_but hL0.out (KeptBut.of_below hBk.out (fun _ => False)) (fun _ _ q => q), hOk.out, hBk.out⟩)
      clear hOk hFk hBk hL0 hol
      go_loopg [3, 4, 7, 8] 4 (fun gn v3 v4 ps i wr => ∃ k : Nat, k ≤ 4 ∧ gn = 4 - k ∧ i = .int .i64 k ∧ ps = .int .i64 ((g.brs k).passed : Int) ∧ BrI w wr G f (g.brs k) v3 v4)
      case atStart => exact ⟨0, by omega, rfl, rfl, rfl, hI0.out⟩
      case round =>
        obtain ⟨k, hk, hgn, rfl, rfl, hI⟩ := hrel
        have hgk : gk = 4 - k := hgn
        obtain ⟨Ao, co, hvo, _, _⟩ := hI.pt.form
        subst hvo
        have hIh := Lib.hid hI
        have hpl : (csI (g.brs k).path).length ≤ 4 := by rw [csI_len]; exact (hbe.out.1 ⟨k, by omega⟩).1
        clear hgn hI hI0
        by_cases hlt : k < 4
        · have hk0 : (0 : Int) ≤ (k : Int) := by omega
          have hk4 : (k : Int) < 4 := by omega
          have hkp : k < (csI (g.brs k).path).length := by rw [csI_len]; exact (hbe.out.1 ⟨k, by omega⟩).2.1 hlt
          obtain ⟨a, hka⟩ : ∃ a, (g.brs k).path[k]? = some a := ⟨_, List.getElem?_eq_getElem (by rw [csI_len] at hkp; exact hkp)⟩
          have ha3 := (hbs.out ⟨k, by omega⟩).1 a (List.mem_of_getElem? hka)
          have hp15 := (hbs.out ⟨k, by omega⟩).2.1
          simp only at hp15
          obtain ⟨gp, curp, hvp, hgp, hpH, _, _, _, hpc⟩ := owns_open hIh.out.pt (by omega)
          subst hvp
          have cpk := (hpc k (by omega)).trans (ints_get (show (csI (g.brs k).path)[k]? = some (a : Int) from by unfold csI; rw [List.getElem?_map, hka]; rfl))
          have hgd : (g.brs k).path.getD k 0 = a := by rw [List.getD_eq_getElem?_getD, hka]; rfl
          have hq15 : (g.brs k).passed ||| 2 ^ a ≤ 15 := by
            have := (hbs.out ⟨k + 1, by omega⟩).2.1
            simp only at this
            have e : (g.brs (k + 1)).passed = (g.brs k).passed ||| 2 ^ (g.brs k).path.getD k 0 := rfl
            rw [e, hgd] at this
            exact this
          have hbn := bitN_nat ha3
          have hor : bits .or .i64 ((g.brs k).passed : Int) ((2 ^ a : Nat) : Int) = (((g.brs k).passed ||| 2 ^ a : Nat) : Int) := by
            have h8 := hbn.2
            generalize 2 ^ a = pw at h8
            rw [bits_or (by omega) (by omega)]
            rfl
          have hpe := Lib.hid (show (g.brs (k + 1)).passed = (g.brs k).passed ||| 2 ^ a from by
            have e : (g.brs (k + 1)).passed = (g.brs k).passed ||| 2 ^ (g.brs k).path.getD k 0 := rfl
            rw [e, hgd])
          have hle := Lib.hid (show (g.brs (k + 1)).list = (g.brs k).list ++ (bitsN (g.nx a &&& (15 - ((g.brs k).passed ||| 2 ^ a)))).map (fun b => (a, b)) ∧ (g.brs (k + 1)).path = (g.brs k).path ++ bitsN (g.nx a &&& (15 - ((g.brs k).passed ||| 2 ^ a))) from by
            have e : g.brs (k + 1) = g.bstep (g.brs k) k := rfl
            rw [e]
            unfold Gr.bstep Gr.far
            rw [hgd]
            exact ⟨rfl, rfl⟩)
          have hnxI : nxI g (a : Int) = (g.nx a : Int) := by unfold nxI; rw [if_pos (inB_iff.2 (by omega)), Int.toNat_natCast]
          have hnx16 := (prs_row g ⟨a, by omega⟩).2.2.1
          simp only at hnx16
          obtain ⟨hfo, hfb, hf4⟩ := far_over ⟨g.nx a, hnx16⟩ ⟨(g.brs k).passed ||| 2 ^ a, by omega⟩
          simp only at hfo hfb hf4
          have hdf := bits_diff (a := (g.nx a : Int)) (b := (((g.brs k).passed ||| 2 ^ a : Nat) : Int)) (by omega) (by omega)
          have cVk := Lib.hid (fun wx => cV.out _ wx hfb)
          have cNk := Lib.hid (fun wx hx => cN.out (a : Int) wx hx)
          have cBk := Lib.hid (fun wx => cB.out (a : Int) wx)
          rw [hfo] at cVk
          rw [hnxI] at cNk
          rw [hbn.1] at cBk
          obtain ⟨A3, c3, hv3, _, _⟩ := owns_form hIh.out.ls
          subst hv3
          have hl3 := (hbs.out ⟨k, by omega⟩).2.2.1
          simp only at hl3
          have ha0 : (0 : Int) ≤ (a : Int) := by omega
          have ha4 : (a : Int) < 4 := by omega
          have hmb := hf4
          have hpl3 := Lib.hid (brC_len (g.brs k).list)
          obtain ⟨far, hfar⟩ : ∃ far, bitsN (g.nx a &&& (15 - ((g.brs k).passed ||| 2 ^ a))) = far := ⟨_, rfl⟩
          rw [hfar] at cVk hle hmb
          obtain ⟨q, hqq⟩ : ∃ q : Nat, (g.brs k).passed ||| 2 ^ a = q := ⟨_, rfl⟩
          rw [hqq] at hor hpe hdf cVk
          obtain ⟨dd, hdd⟩ : ∃ dd : Int, bdf (g.nx a : Int) (q : Int) = dd := ⟨_, rfl⟩
          rw [hdd] at hdf cVk
          obtain ⟨p0, hp0⟩ : ∃ p0 : Nat, (g.brs k).passed = p0 := ⟨_, rfl⟩
          rw [hp0] at hor ⊢
          obtain ⟨b2, hb2⟩ : ∃ b2 : Int, ((2 ^ a : Nat) : Int) = b2 := ⟨_, rfl⟩
          rw [hb2] at hor cBk
          obtain ⟨nx, hnx⟩ : ∃ nx : Int, (g.nx a : Int) = nx := ⟨_, rfl⟩
          rw [hnx] at hdf cNk
          clear hpc hka hgd hq15 hbn hnxI hnx16 hfo hfb hf4 hfar hqq hdd hp0 hb2 hnx hp15 hpH hgp
          go_wp2_with fail
          refine (cBk.out wr).mono ?_
          rintro e w' ⟨rfl, rfl⟩
          clear cpk
          go_wp2_with fail
          refine (cNk.out wr hIh.out.fo).mono ?_
          rintro e w' ⟨rfl, rfl⟩
          go_wp2_with fail
          refine (cVk.out wr).mono ?_
          rintro e w5 ⟨vf, rfl, hvf, hb5⟩
          have hz5 := hIh.out.be.size
          obtain ⟨Af, cf, hvff, _, _⟩ := IOwn.form hvf
          subst hvff
          have hD := Lib.hid (show ∀ i, (Value.slice (some ⟨gp, 0, none⟩) (csI (g.brs k).path).length co).ownBlock = some i → (Value.slice Af (csI far).length cf).ownBlock ≠ some i from fun i h1 h2 => by
            have e1 := (World.ownsRow.lt hIh.out.pt i h1).2
            have e2 := (World.ownsRow.lt hvf i h2).1
            omega)
          have hI5 := Lib.hid (show BrI w w5 G f (g.brs k) (.slice A3 (g.brs k).list.length c3) (.slice (some ⟨gp, 0, none⟩) (csI (g.brs k).path).length co) from ⟨hIh.out.fo.kept hb5, owns_but hIh.out.ls (KeptBut.of_below hb5 (fun _ => False)) (fun _ _ q => q), hIh.out.pt.below hb5, hIh.out.be.trans (hb5.mono hz5)⟩)
          have hV5 := Lib.hid (show IOwn w5 w.heap.size (.slice Af (csI far).length cf) (csI far) from owns_le hvf hz5)
          clear hvf hb5 hIh cVk cNk cBk hdf hor
          rw [csI_len far, csI_len (g.brs k).path]
          rw [csI_len far] at hV5
          rw [csI_len far, csI_len (g.brs k).path] at hD
          have hpl4 : (g.brs k).path.length ≤ 4 := by rw [csI_len] at hpl; exact hpl
          have hkk := Lib.hid (And.intro hpe.out hle.out)
          clear hpe hle hpl hkp
          rw [show BrI w w5 G f (g.brs k) = BrI w w5 G f (g.brs k) from rfl] at hI5
          obtain ⟨hF5, hL5, hP5, hB5⟩ := hI5.out
          rw [csI_len] at hP5
          generalize (g.brs k).path = P at *
          generalize (g.brs k).list = L at *
          generalize (g.brs k).passed = p1 at *
          have hF5h := Lib.hid hF5
          have hL5h := Lib.hid hL5
          have hP5h := Lib.hid hP5
          have hB5h := Lib.hid hB5
          clear hF5 hL5 hP5 hB5 hI5
          go_wp2_with fail
          obtain ⟨k0, rfl⟩ : ∃ q, q = k := ⟨_, rfl⟩
          obtain ⟨w3, rfl⟩ : ∃ q : World, q = wr := ⟨_, rfl⟩
          obtain ⟨g3, rfl⟩ : ∃ q, q = gk := ⟨_, rfl⟩
          go_loopg [3, 4, 49] far.length (fun gn v3 v4 i wr => ∃ j : Nat, j ≤ far.length ∧ gn = far.length - j ∧ i = .int .i64 j ∧ FoW wr G f ∧ wr.ownsRow w.heap.size 138 2 v3 (L.length + j) (brC (L ++ (far.take j).map (fun b => (a, b)))) ∧ IOwn wr w.heap.size v4 (csI (P ++ far.take j)) ∧ Below w.heap.size w wr ∧ IOwn wr w.heap.size (.slice Af far.length cf) (csI far) ∧ (∀ i, v4.ownBlock = some i → (Value.slice Af far.length cf).ownBlock ≠ some i))
          case atStart => exact ⟨0, by omega, rfl, rfl, hF5h.out, by simpa using hL5h.out, by simpa using hP5h.out, hB5h.out, hV5.out, hD.out⟩
          case round =>
            obtain ⟨j, hj, hgn, rfl, hF, hL, hP, hB, hV, hDj⟩ := hrel
            have hgj : gk = far.length - j := hgn
            have hFj := Lib.hid hF
            have hLj := Lib.hid hL
            have hPj := Lib.hid hP
            have hBj := Lib.hid hB
            have hVj := Lib.hid hV
            have hDjh := Lib.hid hDj
            have hz := hB.size
            clear hgn hF hL hP hB hV hDj hF5h hL5h hP5h hB5h hV5 hD
            by_cases hlj : j < far.length
            · obtain ⟨gl, off, d, rfl, hgl, hd, cd⟩ := (IOwn.lst (ds := csI far) (by rw [← csI_len far] at hVj; exact hVj.out)).at_ (k := j) (by rw [csI_len]; exact hlj)
              obtain ⟨b, hb, rfl⟩ : ∃ b : Nat, far[j]? = some b ∧ d = (b : Int) := by
                unfold csI at hd
                rw [List.getElem?_map] at hd
                cases hq : far[j]? with
                | none => rw [hq] at hd; cases hd
                | some u => rw [hq] at hd; exact ⟨u, rfl, (Option.some.inj hd).symm⟩
              have hj0 : (0 : Int) ≤ (j : Int) := by omega
              have hj1 : (j : Int) < (far.length : Int) := by omega
              obtain ⟨hbl, hbe'⟩ := List.getElem?_eq_some_iff.1 hb
              have htk := Lib.hid (show far.take (j + 1) = far.take j ++ [b] by rw [List.take_succ_eq_append_getElem hbl, hbe'])
              clear hd hb hbl hbe'
              obtain ⟨B3, d3, hv3, _, _⟩ := owns_form hLj.out
              subst hv3
              obtain ⟨B4, d4, hv4, _, _⟩ := hPj.out.form
              subst hv4
              have hpl5 : (csI (P ++ far.take j)).length ≤ 8 := by
                rw [csI_len, List.length_append, List.length_take]
                omega
              have hL6 := Lib.hid (World.ownsRow.alloc hLj.out (.cells #[.int .i64 a, .int .i64 b] 138))
              have hB6 := Lib.hid (hBj.out.alloc hz (.cells #[.int .i64 a, .int .i64 b] 138))
              have hnw := Lib.hid (new_two wr (.int .i64 a) (.int .i64 b) 138)
              have hGl := Lib.hid (fun i (hi : (Value.slice B3 (L.length + j) d3).ownBlock = some i) => owns_ne hLj.out hPj.out (by decide) i hi)
              have hGv := Lib.hid (fun i (hi : (Value.slice B3 (L.length + j) d3).ownBlock = some i) => owns_ne hLj.out hVj.out (by decide) i hi)
              have hGf := Lib.hid (fun i (hi : (Value.slice B3 (L.length + j) d3).ownBlock = some i) => (World.ownsRow.lt hLj.out i hi).1)
              generalize hbl2 : brC (L ++ (far.take j).map (fun b => (a, b))) = cl at hLj hL6 hGl hGv hGf
              have hbl2h := Lib.hid hbl2
              clear hbl2
              have hnw1 := Lib.hid (fun wx => new_one wx (.int .i64 b) 3)
              have hVjI := Lib.hid (show IOwn wr w.heap.size (.slice (some ⟨gl, off, none⟩) far.length cf) (csI far) from hVj.out)
              go_wp2_with (first
                | (at_builtin; refine wpList_append_lies _ rfl (.tmp 53) (.tmp 57) 134 rfl w.heap.size 138 i9 _ 2 16 Try.underlying134 hi9 hy0 hy1' hy2' rfl (by decide) (.slice B3 (L.length + j) d3) (L.length + j) cl rfl (by exact hL6.out) ⟨wr.heap.size, 0, none⟩ 1 1 [.int .i64 a, .int .i64 b] rfl rfl (by exact hnw.out) (by simp [Value.oneCell']) (by omega) (by unfold maxLen; omega) (by omega) (by exact hB6.out.size) (wr.heap.size + 1) (by simp) ?_; intro gr cr2 w4 hown4 hgrow4 hat4 hlt4; have hK4 := Lib.hid (grown_but hgrow4); have hO4 := Lib.hid hown4; have hB7 := Lib.hid ((hB6.out.grown hgrow4 (by exact hB6.out.size) (fun k hk => hGf.out k hk)).alloc (by have h1 := hlt4; have h2 := hB6.out.size; exact (hB6.out.grown hgrow4 (by exact hB6.out.size) (fun k hk => hGf.out k hk)).size) (.cells #[.int .i64 b] 3)); have hP7 := Lib.hid ((hPj.out.but hK4.out (fun k e1 e2 => hGl.out k e2 e1)).alloc (.cells #[.int .i64 b] 3)); have hV7 := Lib.hid (hVjI.out.but hK4.out (fun k e1 e2 => hGv.out k e2 e1)); have hF7 := Lib.hid (hFj.out.but hK4.out (fun e => by have := hGf.out G e; omega)); clear hown4 hgrow4 hat4)
                | (at_builtin; refine wpList_append_lies _ rfl (.tmp 59) (.tmp 61) 31 rfl w.heap.size 3 i0 _ 1 8 Try.underlying31 hi0 hz0 hz1' hz2' rfl (by decide) (.slice B4 (csI (P ++ far.take j)).length d4) (csI (P ++ far.take j)).length (ints (csI (P ++ far.take j))) rfl (by exact hP7.out) ⟨w4.heap.size, 0, none⟩ 1 1 [.int .i64 b] rfl rfl (by exact hnw1.out w4) (by simp [Value.oneCell']) (by omega) (by unfold maxLen; omega) (by omega) (by exact hB7.out.size) (w4.heap.size + 1) (by simp) ?_; intro gr6 cr6 w6 hown6 hgrow6 hat6 hlt6))
              have hA6 := Lib.hid (IOwn.append_ (news := [(b : Int)]) hP7.out hown6 hgrow6 hB7.out (by exact hB7.out.size))
              have hK6 := Lib.hid (grown_but hgrow6)
              have hL8 := Lib.hid (owns_but hO4.out hK6.out (fun k e1 e2 => owns_ne hO4.out (IOwn.but hPj.out hK4.out (fun k e1 e2 => hGl.out k e2 e1)) (by decide) k e1 e2))
              have hV8 := Lib.hid (hV7.out.but hK6.out (fun k e1 e2 => hDjh.out k e2 e1))
              have hF8 := Lib.hid (hF7.out.but hK6.out (fun e => by have := (World.ownsRow.lt hPj.out G e).1; omega))
              have hD8 := Lib.hid (show ∀ i, (Value.slice (some ⟨gr6, 0, none⟩) ((csI (P ++ far.take j)).length + 1) cr6).ownBlock = some i → (Value.slice (some ⟨gl, off, none⟩) far.length cf).ownBlock ≠ some i from fun i e1 e2 => by
                have e' : gr6 = i := by injection e1
                subst e'
                rcases hat6 with h | h
                · exact hDjh.out gr6 h e2
                · have := (World.ownsRow.lt hV7.out gr6 e2).2
                  omega)
              have hlen := Lib.hid (show (csI (P ++ far.take (j + 1))) = csI (P ++ far.take j) ++ [(b : Int)] from by rw [htk.out, ← List.append_assoc, csI_app]; rfl)
              have hbrn := Lib.hid (show brC (L ++ (far.take (j + 1)).map (fun b => (a, b))) = cl ++ [.int .i64 (a : Int), .int .i64 (b : Int)] from by rw [htk.out, List.map_append, ← List.append_assoc, brC_app, hbl2h.out]; rfl)
              clear hown6 hgrow6 hat6
              go_wp2_with fail
              go_roundg (far.length - (j + 1))
              case measure => omega
              case rel => exact ⟨j + 1, by omega, rfl, by go_num, hF8.out, by rw [hbrn.out]; exact hL8.out, by rw [hlen.out]; exact hA6.out.1, hA6.out.2, hV8.out, hD8.out⟩
            · obtain rfl : j = far.length := by omega
              have hfull : far.take far.length = far := List.take_of_length_le (Nat.le_refl _)
              have hIn := Lib.hid (show ∀ v3 v4, wr.ownsRow w.heap.size 138 2 v3 (L.length + far.length) (brC (L ++ (far.take far.length).map (fun b => (a, b)))) → IOwn wr w.heap.size v4 (csI (P ++ far.take far.length)) → BrI w wr G f (g.brs (k0 + 1)) v3 v4 from fun v3 v4 h3 h4 => ⟨hFj.out, by rw [hkk.out.2.1, List.length_append, List.length_map]; rw [hfull] at h3; exact h3, by rw [hkk.out.2.2]; rw [hfull] at h4; exact h4, hBj.out⟩)
              have hIn2 := Lib.hid (hIn.out _ _ hLj.out hPj.out)
              clear hIn hfull
              go_wp2_with fail
              go_roundg (4 - (k0 + 1))
              case measure => omega
              case rel => exact ⟨k0 + 1, by omega, rfl, by go_num, by rw [hkk.out.1], hIn2.out⟩
        · obtain rfl : k = 4 := by omega
          have hl4 : (csI (g.brs 4).path).length = 4 := by rw [csI_len]; exact hbe.out.2
          rw [hl4]
          go_wp2_with fail
          go_ret
          exact ⟨_, rfl, hIh.out.ls, hIh.out.be⟩
end Go.Proofs.Ytghkpmafocacoaa
