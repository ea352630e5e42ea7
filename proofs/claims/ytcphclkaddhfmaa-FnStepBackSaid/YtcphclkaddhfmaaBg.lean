/- What numbers are worth ahead of unrolled statements: the program's worthAhead. -/
import Derived.Test.YtcphclkaddhfmaaRg
namespace Go.Proofs.Ytcphclkaddhfmaa
set_option maxRecDepth 100000
set_option linter.unusedVariables false
open Go.RowKit

theorem info_ints : (Try.prog.info? 29).map (fun i => (i.zero, i.size, i.bytes)) = some (some (.slice none 0 0), 1, 24) := by kernel_rfl

def F3 (B m : Nat) (os : List St) (f : Int → Bool) (v : Value) (w : World) : Prop := ∃ gl cs led, v = .slice (some ⟨gl, 0, none⟩) (m + 1) (m + 1) ∧ B ≤ gl ∧ Has w gl 71 cs ∧ LedA cs m led ∧ (∀ st, 0 ≤ st ∧ st ≤ 80 → led 0 st = f st) ∧ (∀ i, i < m → Cl os led i)
def F5 (B : Nat) (ds : List Int) (v : Value) (w : World) : Prop := ∃ gr cs, v = .slice (some ⟨gr, 0, none⟩) 81 81 ∧ B ≤ gr ∧ Has w gr 3 cs ∧ RowA cs (fun st => ds.getD st.toNat 0)
def F9 (B m : Nat) (v : Value) (w : World) : Prop := ∃ gy cs, v = .slice (some ⟨gy, 0, none⟩) (m + 1) (m + 1) ∧ B ≤ gy ∧ Has w gy 29 cs ∧ cs.size = m + 1
def F11 (B : Nat) (v : Value) (w : World) : Prop := ∃ g cs, v = .pointer (some ⟨g, 0, none⟩) ∧ B ≤ g ∧ Has w g 104 cs ∧ cs.size = 4
def F12 (B : Nat) (v v9 v12 v14 v18 : Value) (w : World) : Prop := ∃ g, v = .pointer (some ⟨g, 0, none⟩) ∧ B ≤ g ∧ Has w g 104 #[v9, v12, v14, v18]

theorem F3.keep {B m : Nat} {os : List St} {f : Int → Bool} {v : Value} {w w' : World} (h : F3 B m os f v w) (k : Kp w w') : F3 B m os f v w' := by
  obtain ⟨gl, cs, led, e, hb, hh, hr⟩ := h
  exact ⟨gl, cs, led, e, hb, k _ _ _ hh, hr⟩
theorem F5.keep {B : Nat} {ds : List Int} {v : Value} {w w' : World} (h : F5 B ds v w) (k : Kp w w') : F5 B ds v w' := by
  obtain ⟨gr, cs, e, hb, hh, hr⟩ := h
  exact ⟨gr, cs, e, hb, k _ _ _ hh, hr⟩
theorem F9.keep {B m : Nat} {v : Value} {w w' : World} (h : F9 B m v w) (k : Kp w w') : F9 B m v w' := by
  obtain ⟨gr, cs, e, hb, hh, hr⟩ := h
  exact ⟨gr, cs, e, hb, k _ _ _ hh, hr⟩
theorem F11.keep {B : Nat} {v : Value} {w w' : World} (h : F11 B v w) (k : Kp w w') : F11 B v w' := by
  obtain ⟨gr, cs, e, hb, hh, hr⟩ := h
  exact ⟨gr, cs, e, hb, k _ _ _ hh, hr⟩
theorem F12.keep {B : Nat} {v v9 v12 v14 v18 : Value} {w w' : World} (h : F12 B v v9 v12 v14 v18 w) (k : Kp w w') : F12 B v v9 v12 v14 v18 w' := by
  obtain ⟨g, e, hb, hh⟩ := h
  exact ⟨g, e, hb, k _ _ _ hh⟩
/-- All blocks that are no value of one type are as they were. -/
def Kx (t : TypeId) (w w' : World) : Prop := ∀ b t' cs, Has w b t' cs → t' ≠ t → Has w' b t' cs

theorem nf {b : Bool} (h : b = false) : ¬ b = true := by rw [h]; decide
theorem four {cs : Array Value} (h : cs.size = 4) : ∃ x0 x1 x2 x3, cs = #[x0, x1, x2, x3] := by
  refine ⟨cs[0], cs[1], cs[2], cs[3], ?_⟩
  apply Array.ext
  · simp [h]
  · intro i h1 h2
    have : i = 0 ∨ i = 1 ∨ i = 2 ∨ i = 3 := by omega
    rcases this with rfl | rfl | rfl | rfl <;> rfl
theorem kx_four {w : World} {g : Nat} {t : TypeId} {cs : Array Value} (h : Has w g t cs) (a b c d : Value) : Kx t w ((((w.setCell ⟨g, 0, none⟩ a).setCell ⟨g, 1, none⟩ b).setCell ⟨g, 2, none⟩ c).setCell ⟨g, 3, none⟩ d) := fun k t' cs' hk ht => by
  have hne : k ≠ g := has_ne hk h ht
  exact (((hk.far (p := ⟨g, 0, none⟩) hne a).far (p := ⟨g, 1, none⟩) hne b).far (p := ⟨g, 2, none⟩) hne c).far (p := ⟨g, 3, none⟩) hne d

/-- What stands behind the operations that are listed. -/
def Rgi (B m : Nat) (A F : Option Addr) (c c2 : Nat) (os : List St) (ds : List Int) (fa : Array Value) (f : Int → Bool) (w0 : World) (L : Nat → Bool) (v7 v9 v10 v11 v12 v13 v14 v15 v16 v17 v18 v19 : Value) (w : World) : Prop :=
  (L 0 = true → v9 = .slice A m c) ∧ (L 1 = true → v10 = .slice A m c) ∧ (L 2 = true → v11 = .agg fa) ∧ (L 3 = true → F3 B m os f v12 w) ∧ (L 4 = true → v13 = .slice F 81 c2) ∧ (L 5 = true → F5 B ds v14 w) ∧
  (L 6 = true → v15 = .slice A m c) ∧ (L 7 = true → v16 = .int .i64 m) ∧ (L 8 = true → v17 = .int .i64 (m + 1)) ∧ (L 9 = true → F9 B m v18 w) ∧ (L 10 = true → L 0 = true ∧ L 3 = true ∧ L 5 = true ∧ L 9 = true ∧ v19 = .agg #[v9, v12, v14, v18]) ∧ (L 11 = true → F11 B v7 w) ∧ (L 12 = true → L 0 = true ∧ L 3 = true ∧ L 5 = true ∧ L 9 = true ∧ L 11 = true ∧ F12 B v7 v9 v12 v14 v18 w) ∧ Below B w0 w ∧ B ≤ w.heap.size ∧ Has w B 71 fa

theorem tbk_d : (29 : TypeId) ≠ 104 := by decide
theorem tbk_e : (29 : TypeId) ≠ 71 := by decide
def rowL (g : Int → Int) : List Int := (List.range 81).map fun (q : Nat) => g q
theorem rowL_length (g : Int → Int) : (rowL g).length = 81 := by simp [rowL]
theorem rowL_at {g : Int → Int} {q : Nat} (h : q < 81) : (rowL g)[q]? = some (g q) := by
  unfold rowL
  rw [List.getElem?_map, List.getElem?_range h]; rfl
theorem rowL_getD {g : Int → Int} {st : Int} (h : 0 ≤ st ∧ st ≤ 80) : (rowL g).getD st.toNat 0 = g st := by
  rw [List.getD_eq_getElem?_getD, rowL_at (by omega)]
  simp
  congr 1
  omega
theorem RowA.list {cs : Array Value} {g : Int → Int} (h : RowA cs g) : cs.toList = ints (rowL g) := by
  apply List.ext_getElem?
  intro q
  by_cases hq : q < 81
  · rw [Array.getElem?_toList, h.2 q hq, ints_get (rowL_at hq)]
  · rw [Array.getElem?_toList, Array.getElem?_eq_none (by rw [h.1]; omega), List.getElem?_eq_none (by rw [ints_length, rowL_length]; omega)]
/-- The row is kept for the skips that lead to a place. -/
theorem Bkp.kept {w w' : World} {base g gl gr gy m c k k' n : Nat} {A : Option Addr} {os : List St} {led : Nat → Int → Bool} {G : Int → Int} {R : Nat → Int → Int} {kb : Nat → Nat} {ks cs : Array Value} (h : Bkp w base g gl gr gy m A c os led G R k kb) (hk : KeptBut w w' (fun i => i = gy)) (hkk : k = k' + 1) (hks : Has w gy 29 ks) (hn : Has w' gy 29 (ks.setIfInBounds k (.slice (some ⟨n, 0, none⟩) 81 81))) (hkm : k ≤ m) (hc : Has w' n 3 cs) (hr : RowA cs (R k)) (hng : n ≠ gr) (hgb : base ≤ gy) :
    Bkp w' base g gl gr gy m A c os led G R k' (fun j => if j = k then n else kb j) := by
  obtain ⟨h1, h2, ⟨cl, h3, h4⟩, ⟨cr, h5, h6⟩, ⟨ks', h7, h8, h9⟩, h10, h11, h12⟩ := h
  have e : ks' = ks := by
    unfold Has at h7 hks
    rw [h7] at hks
    injection hks with e
    injection e with e _ _
  subst e
  refine ⟨h1.but hk (has_ne h1 h7 (Ne.symm tbk_d)), h2.below (hk.below (fun i hi e => by omega) h12), ⟨cl, h3.but hk (has_ne h3 h7 (Ne.symm tbk_e)), h4⟩, ⟨cr, h5.but hk (has_ne h5 h7 tbk_c), h6⟩, ⟨_, hn, by simpa using h8, fun j h0 hj hs => ?_⟩, fun j h0 hj hs => ?_, h11, Nat.le_trans h12 hk.size⟩
  · dsimp only
    rw [Array.getElem?_setIfInBounds]
    by_cases hjk : k = j
    · rw [if_pos hjk, if_pos (by omega), if_pos hjk.symm]
    · rw [if_neg hjk, if_neg (Ne.symm hjk)]
      exact h9 j (by omega) hj hs
  · dsimp only
    by_cases hjk : j = k
    · subst hjk
      rw [if_pos rfl]
      exact ⟨hng, cs, hc, hr⟩
    · rw [if_neg hjk]
      obtain ⟨hn9, cs9, hc9, hr9⟩ := h10 j (by omega) hj hs
      exact ⟨hn9, cs9, hc9.but hk (has_ne hc9 h7 tbk_c), hr9⟩
theorem Bkp.unled {w : World} {base g gl gr gy m c k k' : Nat} {A : Option Addr} {os : List St} {led : Nat → Int → Bool} {G : Int → Int} {R : Nat → Int → Int} {kb : Nat → Nat} (h : Bkp w base g gl gr gy m A c os led G R k kb) (hkk : k = k' + 1) (hno : ¬ ∃ i, Leads os k i) : Bkp w base g gl gr gy m A c os led G R k' kb := by
  obtain ⟨h1, h2, h3, h5, ⟨ks, h7, h8, h9⟩, h10, h11, h12⟩ := h
  have key : ∀ j, k' < j → (∃ i, Leads os j i) → k < j := fun j hj hs => by
    by_cases hjk : j = k
    · subst hjk; exact absurd hs hno
    · omega
  exact ⟨h1, h2, h3, h5, ⟨ks, h7, h8, fun j h0 hj hs => h9 j (key j h0 hs) hj hs⟩, fun j h0 hj hs => h10 j (key j h0 hs) hj hs, h11, h12⟩

def Whd (w : World) (os : List St) (h : Int → Int) (f : Int → Bool) (e : Ending) (w' : World) : Prop :=
  ∃ gr cs led, e = .returned (.slice (some ⟨gr, 0, none⟩) 81 81) ∧ w.heap.size ≤ gr ∧ Has w' gr 3 cs ∧ RowA cs (Rw h os led 0) ∧ (∀ st, 0 ≤ st ∧ st ≤ 80 → led 0 st = f st) ∧ Below w.heap.size w w'

set_option maxHeartbeats 1000000 in
theorem worthAhead_any (A F : Option Addr) (m c c2 : Nat) (os : List St) (ds : List Int) (fa : Array Value) (f : Int → Bool) (w : World) (h : Lst w w.heap.size A m os) (hm : m ≤ 12) (hM : os.length = m) (hok : ∀ s ∈ os, s.ok = true) (hd : Ils w w.heap.size F 81 ds) (hl : ds.length = 81) (hf : SetA fa f)
    (hR : ∀ led j st, 0 ≤ st ∧ st ≤ 80 → 0 < j → 0 ≤ Rw (fun st => ds.getD st.toNat 0) os led j st ∧ Rw (fun st => ds.getD st.toNat 0) os led j st ≤ 100000000000000000) :
    Calls Try.prog 52 #[.slice A m c, .slice F 81 c2, .agg fa] w (Whd w os (fun st => ds.getD st.toNat 0) f) := by
  have cL := Lib.hid (fun wx (hb : Below w.heap.size w wx) => ledFrom_any A m c os fa f wx ((h.below hb).more hb.size) hm hM hok hf)
  have cC := Lib.hid (fun wx (hb : Below w.heap.size w wx) => copied_any F 81 c2 ds wx ((hd.below hb).more hb.size) (by decide))
  have hH := Lib.hid h
  have hRb := Lib.hid hR
  obtain ⟨i0, hi0, hz0, hz1', hz2'⟩ := info_parts info_ints
  have hmk : ∀ wx : World, (Instr.makeSlice 102 (.int .i64 ((m : Int) + 1)) (.int .i64 ((m : Int) + 1))).run Try.prog wx = .ok (.slice (some ⟨wx.heap.size, 0, none⟩) (m + 1) (m + 1)) (wx.alloc (.cells (madeCells (Value.slice none 0 0).cells ((m + 1) * 1)) 29)) := by
    intro wx
    have hr := run_make (P := Try.prog) wx 102 29 i0 _ Try.underlying102 hi0 hz0 .i64 .i64 ((m : Int) + 1) ((m : Int) + 1) (by omega) (by omega) (by rw [hz2']; omega) (by omega)
    rw [hz1'] at hr
    rw [show ((m : Int) + 1).toNat = m + 1 by omega] at hr
    exact hr
  have hmk' := Lib.hid hmk
  have hbox := Lib.hid (Has.new w 71 fa)
  have hZ := Lib.hid (show (Try.prog.info? 71).map (·.size) = some fa.toList.length from by rw [(zero_of_info (P := Try.prog) info_set).2, Array.length_toList, hf.1])
  have hw1 : IntKind.i64.wrap ((m : Int) + 1) = (m : Int) + 1 := IntWalk.i64_in _ (by omega)
  have hB0 := Lib.hid ((Below.refl w.heap.size w).alloc (Nat.le_refl _) (.cells fa 71))
  clear h hd hR hi0 hz0 hz1' hz2' hmk
  go_enter Try.func52, Try.ntmps52
  go_wp2_with fail
  refine wp_region_any (by kernel_rfl) ?_
  change wpAny _ _ _ _ _ _ _ (World.drew _)
  refine wpAny_inv (I := fun listed a wx => listed.size = 13 ∧ ∃ v7 v9 v10 v11 v12 v13 v14 v15 v16 v17 v18 v19 : Value, a = { tmps := #[.slice A m c, .slice F 81 c2, .agg fa, undef, undef, .pointer (some ⟨w.heap.size, 0, none⟩), .slice none 0 0, v7, undef, v9, v10, v11, v12, v13, v14, v15, v16, v17, v18, v19, undef, undef, undef, undef, undef, undef, undef, undef, undef, undef, undef, undef, undef, undef, undef, undef, undef, undef, undef, undef, undef], defers := [] } ∧ Rgi w.heap.size m A F c c2 os ds fa f w (fun k => listed.getD k false) v7 v9 v10 v11 v12 v13 v14 v15 v16 v17 v18 v19 wx) ?hs ?he _ _ _ _ ?st (by decide)
  case st =>
    refine ⟨by simp, undef, undef, undef, undef, undef, undef, undef, undef, undef, undef, undef, undef, rfl, ?_⟩
    refine ⟨?_, ?_, ?_, ?_, ?_, ?_, ?_, ?_, ?_, ?_, ?_, ?_, ?_, hB0.out.drew, hB0.out.size, hbox.out⟩ <;> (intro e; exact absurd e (by decide))
  case hs =>
    rintro listed a wx ⟨hz, v7, v9, v10, v11, v12, v13, v14, v15, v16, v17, v18, v19, rfl, hII⟩ i hi
    obtain ⟨h0, o, ho, hd⟩ := mem_ready.1 hi
    have hi13 : i < 13 := by
      have := (Array.getElem?_eq_some_iff.1 ho).1
      simpa using this
    have hI := Lib.hid hII
    have hne := Lib.hid (fun k (hk : i ≠ k) => @listed_ne listed i k hk)
    have hB : Below w.heap.size w wx := hII.2.2.2.2.2.2.2.2.2.2.2.2.2.1
    have hBs : w.heap.size ≤ wx.heap.size := hII.2.2.2.2.2.2.2.2.2.2.2.2.2.2.1
    have hbx : Has wx w.heap.size 71 fa := hII.2.2.2.2.2.2.2.2.2.2.2.2.2.2.2
    have h0f : listed.getD i false = false := by rw [Array.getD_eq_getD_getElem?, getD_false h0]; rfl
    clear hII hi h0
    rcases (by omega : i = 0 ∨ i = 1 ∨ i = 2 ∨ i = 3 ∨ i = 4 ∨ i = 5 ∨ i = 6 ∨ i = 7 ∨ i = 8 ∨ i = 9 ∨ i = 10 ∨ i = 11 ∨ i = 12) with rfl | rfl | rfl | rfl | rfl | rfl | rfl | rfl | rfl | rfl | rfl | rfl | rfl
    · cases ho
      refine wpOp_step rfl (fun K hK => ?_)
      go_simp
      refine hK _ _ ⟨by simpa using hz, v7, .slice A m c, v10, v11, v12, v13, v14, v15, v16, v17, v18, v19, rfl, ?_⟩
      exact ⟨fun _ => rfl, fun e => hI.out.2.1 (hne.out 1 (by decide) e), fun e => hI.out.2.2.1 (hne.out 2 (by decide) e), fun e => hI.out.2.2.2.1 (hne.out 3 (by decide) e), fun e => hI.out.2.2.2.2.1 (hne.out 4 (by decide) e), fun e => hI.out.2.2.2.2.2.1 (hne.out 5 (by decide) e), fun e => hI.out.2.2.2.2.2.2.1 (hne.out 6 (by decide) e), fun e => hI.out.2.2.2.2.2.2.2.1 (hne.out 7 (by decide) e), fun e => hI.out.2.2.2.2.2.2.2.2.1 (hne.out 8 (by decide) e), fun e => hI.out.2.2.2.2.2.2.2.2.2.1 (hne.out 9 (by decide) e), fun e => absurd ((hI.out.2.2.2.2.2.2.2.2.2.2.1 (hne.out 10 (by decide) e)).1) (nf h0f), fun e => hI.out.2.2.2.2.2.2.2.2.2.2.2.1 (hne.out 11 (by decide) e), fun e => absurd ((hI.out.2.2.2.2.2.2.2.2.2.2.2.2.1 (hne.out 12 (by decide) e)).1) (nf h0f), hB, hBs, hbx⟩
    · cases ho
      refine wpOp_step rfl (fun K hK => ?_)
      go_simp
      refine hK _ _ ⟨by simpa using hz, v7, v9, .slice A m c, v11, v12, v13, v14, v15, v16, v17, v18, v19, rfl, ?_⟩
      exact ⟨fun e => hI.out.1 (hne.out 0 (by decide) e), fun _ => rfl, fun e => hI.out.2.2.1 (hne.out 2 (by decide) e), fun e => hI.out.2.2.2.1 (hne.out 3 (by decide) e), fun e => hI.out.2.2.2.2.1 (hne.out 4 (by decide) e), fun e => hI.out.2.2.2.2.2.1 (hne.out 5 (by decide) e), fun e => hI.out.2.2.2.2.2.2.1 (hne.out 6 (by decide) e), fun e => hI.out.2.2.2.2.2.2.2.1 (hne.out 7 (by decide) e), fun e => hI.out.2.2.2.2.2.2.2.2.1 (hne.out 8 (by decide) e), fun e => hI.out.2.2.2.2.2.2.2.2.2.1 (hne.out 9 (by decide) e), fun e => by (obtain ⟨x0, x3, x5, x9, x⟩ := hI.out.2.2.2.2.2.2.2.2.2.2.1 (hne.out 10 (by decide) e); exact ⟨getD_set_true x0, getD_set_true x3, getD_set_true x5, getD_set_true x9, x⟩), fun e => hI.out.2.2.2.2.2.2.2.2.2.2.2.1 (hne.out 11 (by decide) e), fun e => by (obtain ⟨x0, x3, x5, x9, x11, x⟩ := hI.out.2.2.2.2.2.2.2.2.2.2.2.2.1 (hne.out 12 (by decide) e); exact ⟨getD_set_true x0, getD_set_true x3, getD_set_true x5, getD_set_true x9, getD_set_true x11, x⟩), hB, hBs, hbx⟩
    · cases ho
      have hR := (has_range (o := 0) (vs := fa.toList) (hbx) (fun j v hv => by rw [Nat.zero_add]; simpa using hv))
      refine wpOp_step rfl (fun K hK => ?_)
      rw [if_pos (by rfl)]
      refine wp_load_mid 71 (.tmp 5) rfl w.heap.size 0 (by rfl) fa.toList _ hR Try.underlying71 rfl hZ.out ?_
      refine hK _ _ ⟨by simpa using hz, v7, v9, v10, .agg fa.toList.toArray, v12, v13, v14, v15, v16, v17, v18, v19, rfl, ?_⟩
      exact ⟨fun e => hI.out.1 (hne.out 0 (by decide) e), fun e => hI.out.2.1 (hne.out 1 (by decide) e), fun _ => rfl, fun e => hI.out.2.2.2.1 (hne.out 3 (by decide) e), fun e => hI.out.2.2.2.2.1 (hne.out 4 (by decide) e), fun e => hI.out.2.2.2.2.2.1 (hne.out 5 (by decide) e), fun e => hI.out.2.2.2.2.2.2.1 (hne.out 6 (by decide) e), fun e => hI.out.2.2.2.2.2.2.2.1 (hne.out 7 (by decide) e), fun e => hI.out.2.2.2.2.2.2.2.2.1 (hne.out 8 (by decide) e), fun e => hI.out.2.2.2.2.2.2.2.2.2.1 (hne.out 9 (by decide) e), fun e => by (obtain ⟨x0, x3, x5, x9, x⟩ := hI.out.2.2.2.2.2.2.2.2.2.2.1 (hne.out 10 (by decide) e); exact ⟨getD_set_true x0, getD_set_true x3, getD_set_true x5, getD_set_true x9, x⟩), fun e => hI.out.2.2.2.2.2.2.2.2.2.2.2.1 (hne.out 11 (by decide) e), fun e => by (obtain ⟨x0, x3, x5, x9, x11, x⟩ := hI.out.2.2.2.2.2.2.2.2.2.2.2.2.1 (hne.out 12 (by decide) e); exact ⟨getD_set_true x0, getD_set_true x3, getD_set_true x5, getD_set_true x9, getD_set_true x11, x⟩), hB, hBs, hbx⟩
    · cases ho
      have d1 := hd ⟨1, .data⟩ (by simp) rfl
      have d2 := hd ⟨2, .data⟩ (by simp) rfl
      obtain rfl := hI.out.2.1 d1
      obtain rfl := hI.out.2.2.1 d2
      refine wpOp_step rfl (fun K hK => ?_)
      go_simp
      go_at_call 86
      refine (cL.out _ hB).mono ?_
      rintro e w3 ⟨gl, cs, led, rfl, hge, hgl, hla, hl0, hcl, hb3⟩
      refine hK _ _ ⟨by simpa using hz, v7, v9, .slice A m c, .agg fa, .slice (some ⟨gl, 0, none⟩) (m + 1) (m + 1), v13, v14, v15, v16, v17, v18, v19, rfl, ?_⟩
      exact ⟨fun e => hI.out.1 (hne.out 0 (by decide) e), fun e => hI.out.2.1 (hne.out 1 (by decide) e), fun e => hI.out.2.2.1 (hne.out 2 (by decide) e), fun _ => ⟨gl, cs, led, rfl, by omega, hgl, hla, hl0, hcl⟩, fun e => hI.out.2.2.2.2.1 (hne.out 4 (by decide) e), fun e => F5.keep (hI.out.2.2.2.2.2.1 (hne.out 5 (by decide) e)) (Kp.below hb3), fun e => hI.out.2.2.2.2.2.2.1 (hne.out 6 (by decide) e), fun e => hI.out.2.2.2.2.2.2.2.1 (hne.out 7 (by decide) e), fun e => hI.out.2.2.2.2.2.2.2.2.1 (hne.out 8 (by decide) e), fun e => F9.keep (hI.out.2.2.2.2.2.2.2.2.2.1 (hne.out 9 (by decide) e)) (Kp.below hb3), fun e => absurd ((hI.out.2.2.2.2.2.2.2.2.2.2.1 (hne.out 10 (by decide) e)).2.1) (nf h0f), fun e => F11.keep (hI.out.2.2.2.2.2.2.2.2.2.2.2.1 (hne.out 11 (by decide) e)) (Kp.below hb3), fun e => absurd ((hI.out.2.2.2.2.2.2.2.2.2.2.2.2.1 (hne.out 12 (by decide) e)).2.1) (nf h0f), hB.trans (hb3.mono hBs), Nat.le_trans hBs hb3.size, (Kp.below hb3) _ _ _ hbx⟩
    · cases ho
      refine wpOp_step rfl (fun K hK => ?_)
      go_simp
      refine hK _ _ ⟨by simpa using hz, v7, v9, v10, v11, v12, .slice F 81 c2, v14, v15, v16, v17, v18, v19, rfl, ?_⟩
      exact ⟨fun e => hI.out.1 (hne.out 0 (by decide) e), fun e => hI.out.2.1 (hne.out 1 (by decide) e), fun e => hI.out.2.2.1 (hne.out 2 (by decide) e), fun e => hI.out.2.2.2.1 (hne.out 3 (by decide) e), fun _ => rfl, fun e => hI.out.2.2.2.2.2.1 (hne.out 5 (by decide) e), fun e => hI.out.2.2.2.2.2.2.1 (hne.out 6 (by decide) e), fun e => hI.out.2.2.2.2.2.2.2.1 (hne.out 7 (by decide) e), fun e => hI.out.2.2.2.2.2.2.2.2.1 (hne.out 8 (by decide) e), fun e => hI.out.2.2.2.2.2.2.2.2.2.1 (hne.out 9 (by decide) e), fun e => by (obtain ⟨x0, x3, x5, x9, x⟩ := hI.out.2.2.2.2.2.2.2.2.2.2.1 (hne.out 10 (by decide) e); exact ⟨getD_set_true x0, getD_set_true x3, getD_set_true x5, getD_set_true x9, x⟩), fun e => hI.out.2.2.2.2.2.2.2.2.2.2.2.1 (hne.out 11 (by decide) e), fun e => by (obtain ⟨x0, x3, x5, x9, x11, x⟩ := hI.out.2.2.2.2.2.2.2.2.2.2.2.2.1 (hne.out 12 (by decide) e); exact ⟨getD_set_true x0, getD_set_true x3, getD_set_true x5, getD_set_true x9, getD_set_true x11, x⟩), hB, hBs, hbx⟩
    · cases ho
      have d4 := hd ⟨4, .data⟩ (by simp) rfl
      have d3 := hd ⟨3, .chain⟩ (by simp) rfl
      obtain rfl := hI.out.2.2.2.2.1 d4
      refine wpOp_step rfl (fun K hK => ?_)
      go_simp
      go_at_call 87
      refine (cC.out _ hB).mono ?_
      rintro e w3 ⟨rfl, ho3, hb3⟩
      obtain ⟨cr, hcr, hra⟩ := ho3.rowA hl
      refine hK _ _ ⟨by simpa using hz, v7, v9, v10, v11, v12, .slice F 81 c2, .slice (some ⟨wx.heap.size, 0, none⟩) 81 81, v15, v16, v17, v18, v19, rfl, ?_⟩
      exact ⟨fun e => hI.out.1 (hne.out 0 (by decide) e), fun e => hI.out.2.1 (hne.out 1 (by decide) e), fun e => hI.out.2.2.1 (hne.out 2 (by decide) e), fun e => F3.keep (hI.out.2.2.2.1 (hne.out 3 (by decide) e)) (Kp.below hb3), fun e => hI.out.2.2.2.2.1 (hne.out 4 (by decide) e), fun _ => ⟨_, cr, rfl, hBs, hcr, hra⟩, fun e => hI.out.2.2.2.2.2.2.1 (hne.out 6 (by decide) e), fun e => hI.out.2.2.2.2.2.2.2.1 (hne.out 7 (by decide) e), fun e => hI.out.2.2.2.2.2.2.2.2.1 (hne.out 8 (by decide) e), fun e => F9.keep (hI.out.2.2.2.2.2.2.2.2.2.1 (hne.out 9 (by decide) e)) (Kp.below hb3), fun e => absurd ((hI.out.2.2.2.2.2.2.2.2.2.2.1 (hne.out 10 (by decide) e)).2.2.1) (nf h0f), fun e => F11.keep (hI.out.2.2.2.2.2.2.2.2.2.2.2.1 (hne.out 11 (by decide) e)) (Kp.below hb3), fun e => absurd ((hI.out.2.2.2.2.2.2.2.2.2.2.2.2.1 (hne.out 12 (by decide) e)).2.2.1) (nf h0f), hB.trans (hb3.mono hBs), Nat.le_trans hBs hb3.size, (Kp.below hb3) _ _ _ hbx⟩
    · cases ho
      refine wpOp_step rfl (fun K hK => ?_)
      go_simp
      refine hK _ _ ⟨by simpa using hz, v7, v9, v10, v11, v12, v13, v14, .slice A m c, v16, v17, v18, v19, rfl, ?_⟩
      exact ⟨fun e => hI.out.1 (hne.out 0 (by decide) e), fun e => hI.out.2.1 (hne.out 1 (by decide) e), fun e => hI.out.2.2.1 (hne.out 2 (by decide) e), fun e => hI.out.2.2.2.1 (hne.out 3 (by decide) e), fun e => hI.out.2.2.2.2.1 (hne.out 4 (by decide) e), fun e => hI.out.2.2.2.2.2.1 (hne.out 5 (by decide) e), fun _ => rfl, fun e => hI.out.2.2.2.2.2.2.2.1 (hne.out 7 (by decide) e), fun e => hI.out.2.2.2.2.2.2.2.2.1 (hne.out 8 (by decide) e), fun e => hI.out.2.2.2.2.2.2.2.2.2.1 (hne.out 9 (by decide) e), fun e => by (obtain ⟨x0, x3, x5, x9, x⟩ := hI.out.2.2.2.2.2.2.2.2.2.2.1 (hne.out 10 (by decide) e); exact ⟨getD_set_true x0, getD_set_true x3, getD_set_true x5, getD_set_true x9, x⟩), fun e => hI.out.2.2.2.2.2.2.2.2.2.2.2.1 (hne.out 11 (by decide) e), fun e => by (obtain ⟨x0, x3, x5, x9, x11, x⟩ := hI.out.2.2.2.2.2.2.2.2.2.2.2.2.1 (hne.out 12 (by decide) e); exact ⟨getD_set_true x0, getD_set_true x3, getD_set_true x5, getD_set_true x9, getD_set_true x11, x⟩), hB, hBs, hbx⟩
    · cases ho
      have d6 := hd ⟨6, .data⟩ (by simp) rfl
      obtain rfl := hI.out.2.2.2.2.2.2.1 d6
      refine wpOp_step rfl (fun K hK => ?_)
      go_simp
      refine hK _ _ ⟨by simpa using hz, v7, v9, v10, v11, v12, v13, v14, .slice A m c, .int .i64 m, v17, v18, v19, rfl, ?_⟩
      exact ⟨fun e => hI.out.1 (hne.out 0 (by decide) e), fun e => hI.out.2.1 (hne.out 1 (by decide) e), fun e => hI.out.2.2.1 (hne.out 2 (by decide) e), fun e => hI.out.2.2.2.1 (hne.out 3 (by decide) e), fun e => hI.out.2.2.2.2.1 (hne.out 4 (by decide) e), fun e => hI.out.2.2.2.2.2.1 (hne.out 5 (by decide) e), fun e => hI.out.2.2.2.2.2.2.1 (hne.out 6 (by decide) e), fun _ => rfl, fun e => hI.out.2.2.2.2.2.2.2.2.1 (hne.out 8 (by decide) e), fun e => hI.out.2.2.2.2.2.2.2.2.2.1 (hne.out 9 (by decide) e), fun e => by (obtain ⟨x0, x3, x5, x9, x⟩ := hI.out.2.2.2.2.2.2.2.2.2.2.1 (hne.out 10 (by decide) e); exact ⟨getD_set_true x0, getD_set_true x3, getD_set_true x5, getD_set_true x9, x⟩), fun e => hI.out.2.2.2.2.2.2.2.2.2.2.2.1 (hne.out 11 (by decide) e), fun e => by (obtain ⟨x0, x3, x5, x9, x11, x⟩ := hI.out.2.2.2.2.2.2.2.2.2.2.2.2.1 (hne.out 12 (by decide) e); exact ⟨getD_set_true x0, getD_set_true x3, getD_set_true x5, getD_set_true x9, getD_set_true x11, x⟩), hB, hBs, hbx⟩
    · cases ho
      have d7 := hd ⟨7, .data⟩ (by simp) rfl
      obtain rfl := hI.out.2.2.2.2.2.2.2.1 d7
      refine wpOp_step rfl (fun K hK => ?_)
      go_simp
      refine hK _ _ ⟨by simpa using hz, v7, v9, v10, v11, v12, v13, v14, v15, .int .i64 m, .int .i64 (m + 1), v18, v19, rfl, ?_⟩
      exact ⟨fun e => hI.out.1 (hne.out 0 (by decide) e), fun e => hI.out.2.1 (hne.out 1 (by decide) e), fun e => hI.out.2.2.1 (hne.out 2 (by decide) e), fun e => hI.out.2.2.2.1 (hne.out 3 (by decide) e), fun e => hI.out.2.2.2.2.1 (hne.out 4 (by decide) e), fun e => hI.out.2.2.2.2.2.1 (hne.out 5 (by decide) e), fun e => hI.out.2.2.2.2.2.2.1 (hne.out 6 (by decide) e), fun e => hI.out.2.2.2.2.2.2.2.1 (hne.out 7 (by decide) e), fun _ => rfl, fun e => hI.out.2.2.2.2.2.2.2.2.2.1 (hne.out 9 (by decide) e), fun e => by (obtain ⟨x0, x3, x5, x9, x⟩ := hI.out.2.2.2.2.2.2.2.2.2.2.1 (hne.out 10 (by decide) e); exact ⟨getD_set_true x0, getD_set_true x3, getD_set_true x5, getD_set_true x9, x⟩), fun e => hI.out.2.2.2.2.2.2.2.2.2.2.2.1 (hne.out 11 (by decide) e), fun e => by (obtain ⟨x0, x3, x5, x9, x11, x⟩ := hI.out.2.2.2.2.2.2.2.2.2.2.2.2.1 (hne.out 12 (by decide) e); exact ⟨getD_set_true x0, getD_set_true x3, getD_set_true x5, getD_set_true x9, getD_set_true x11, x⟩), hB, hBs, hbx⟩
    · cases ho
      have d8 := hd ⟨8, .data⟩ (by simp) rfl
      obtain rfl := hI.out.2.2.2.2.2.2.2.2.1 d8
      have hmkx := hmk'.out
      refine wpOp_step rfl (fun K hK => ?_)
      go_simp
      refine hK _ _ ⟨by simpa using hz, v7, v9, v10, v11, v12, v13, v14, v15, v16, .int .i64 (m + 1), .slice (some ⟨wx.heap.size, 0, none⟩) (m + 1) (m + 1), v19, rfl, ?_⟩
      exact ⟨fun e => hI.out.1 (hne.out 0 (by decide) e), fun e => hI.out.2.1 (hne.out 1 (by decide) e), fun e => hI.out.2.2.1 (hne.out 2 (by decide) e), fun e => F3.keep (hI.out.2.2.2.1 (hne.out 3 (by decide) e)) (Kp.alloc _ _), fun e => hI.out.2.2.2.2.1 (hne.out 4 (by decide) e), fun e => F5.keep (hI.out.2.2.2.2.2.1 (hne.out 5 (by decide) e)) (Kp.alloc _ _), fun e => hI.out.2.2.2.2.2.2.1 (hne.out 6 (by decide) e), fun e => hI.out.2.2.2.2.2.2.2.1 (hne.out 7 (by decide) e), fun e => hI.out.2.2.2.2.2.2.2.2.1 (hne.out 8 (by decide) e), fun _ => ⟨_, _, rfl, hBs, Has.new _ _ _, by simp [size_madeCells]⟩, fun e => absurd ((hI.out.2.2.2.2.2.2.2.2.2.2.1 (hne.out 10 (by decide) e)).2.2.2.1) (nf h0f), fun e => F11.keep (hI.out.2.2.2.2.2.2.2.2.2.2.2.1 (hne.out 11 (by decide) e)) (Kp.alloc _ _), fun e => absurd ((hI.out.2.2.2.2.2.2.2.2.2.2.2.2.1 (hne.out 12 (by decide) e)).2.2.2.1) (nf h0f), hB.alloc hBs _, by simp; omega, (Kp.alloc _ _) _ _ _ hbx⟩
    · cases ho
      have d0 := hd ⟨0, .data⟩ (by simp) rfl
      have d3 := hd ⟨3, .data⟩ (by simp) rfl
      have d5 := hd ⟨5, .data⟩ (by simp) rfl
      have d9 := hd ⟨9, .data⟩ (by simp) rfl
      obtain ⟨gl, csl, led, rfl, hf3⟩ := hI.out.2.2.2.1 d3
      obtain ⟨gr, csr, rfl, hf5⟩ := hI.out.2.2.2.2.2.1 d5
      obtain ⟨gy, csy, rfl, hf9⟩ := hI.out.2.2.2.2.2.2.2.2.2.1 d9
      obtain rfl := hI.out.1 d0
      refine wpOp_step rfl (fun K hK => ?_)
      go_simp
      refine hK _ _ ⟨by simpa using hz, v7, .slice A m c, v10, v11, .slice (some ⟨gl, 0, none⟩) (m + 1) (m + 1), v13, .slice (some ⟨gr, 0, none⟩) 81 81, v15, v16, v17, .slice (some ⟨gy, 0, none⟩) (m + 1) (m + 1), .agg #[.slice A m c, .slice (some ⟨gl, 0, none⟩) (m + 1) (m + 1), .slice (some ⟨gr, 0, none⟩) 81 81, .slice (some ⟨gy, 0, none⟩) (m + 1) (m + 1)], rfl, ?_⟩
      exact ⟨fun e => hI.out.1 (hne.out 0 (by decide) e), fun e => hI.out.2.1 (hne.out 1 (by decide) e), fun e => hI.out.2.2.1 (hne.out 2 (by decide) e), fun e => hI.out.2.2.2.1 (hne.out 3 (by decide) e), fun e => hI.out.2.2.2.2.1 (hne.out 4 (by decide) e), fun e => hI.out.2.2.2.2.2.1 (hne.out 5 (by decide) e), fun e => hI.out.2.2.2.2.2.2.1 (hne.out 6 (by decide) e), fun e => hI.out.2.2.2.2.2.2.2.1 (hne.out 7 (by decide) e), fun e => hI.out.2.2.2.2.2.2.2.2.1 (hne.out 8 (by decide) e), fun e => hI.out.2.2.2.2.2.2.2.2.2.1 (hne.out 9 (by decide) e), fun _ => ⟨getD_set_true d0, getD_set_true d3, getD_set_true d5, getD_set_true d9, rfl⟩, fun e => hI.out.2.2.2.2.2.2.2.2.2.2.2.1 (hne.out 11 (by decide) e), fun e => by (obtain ⟨x0, x3, x5, x9, x11, x⟩ := hI.out.2.2.2.2.2.2.2.2.2.2.2.2.1 (hne.out 12 (by decide) e); exact ⟨getD_set_true x0, getD_set_true x3, getD_set_true x5, getD_set_true x9, getD_set_true x11, x⟩), hB, hBs, hbx⟩
    · cases ho
      refine wpOp_step rfl (fun K hK => ?_)
      go_simp
      refine hK _ _ ⟨by simpa using hz, .pointer (some ⟨wx.heap.size, 0, none⟩), v9, v10, v11, v12, v13, v14, v15, v16, v17, v18, v19, rfl, ?_⟩
      exact ⟨fun e => hI.out.1 (hne.out 0 (by decide) e), fun e => hI.out.2.1 (hne.out 1 (by decide) e), fun e => hI.out.2.2.1 (hne.out 2 (by decide) e), fun e => F3.keep (hI.out.2.2.2.1 (hne.out 3 (by decide) e)) (Kp.alloc _ _), fun e => hI.out.2.2.2.2.1 (hne.out 4 (by decide) e), fun e => F5.keep (hI.out.2.2.2.2.2.1 (hne.out 5 (by decide) e)) (Kp.alloc _ _), fun e => hI.out.2.2.2.2.2.2.1 (hne.out 6 (by decide) e), fun e => hI.out.2.2.2.2.2.2.2.1 (hne.out 7 (by decide) e), fun e => hI.out.2.2.2.2.2.2.2.2.1 (hne.out 8 (by decide) e), fun e => F9.keep (hI.out.2.2.2.2.2.2.2.2.2.1 (hne.out 9 (by decide) e)) (Kp.alloc _ _), fun e => by (obtain ⟨x0, x3, x5, x9, x⟩ := hI.out.2.2.2.2.2.2.2.2.2.2.1 (hne.out 10 (by decide) e); exact ⟨getD_set_true x0, getD_set_true x3, getD_set_true x5, getD_set_true x9, x⟩), fun _ => ⟨_, _, rfl, hBs, Has.new _ _ _, rfl⟩, fun e => absurd ((hI.out.2.2.2.2.2.2.2.2.2.2.2.2.1 (hne.out 12 (by decide) e)).2.2.2.2.1) (nf h0f), hB.alloc hBs _, by simp; omega, (Kp.alloc _ _) _ _ _ hbx⟩
    · cases ho
      have d11 := hd ⟨11, .data⟩ (by simp) rfl
      have d10 := hd ⟨10, .data⟩ (by simp) rfl
      have d3 := hd ⟨3, .phase⟩ (by simp) rfl
      have d5 := hd ⟨5, .phase⟩ (by simp) rfl
      have d9 := hd ⟨9, .phase⟩ (by simp) rfl
      have d0 := hd ⟨0, .phase⟩ (by simp) rfl
      obtain ⟨gl, csl, led, rfl, hf3⟩ := hI.out.2.2.2.1 d3
      obtain ⟨gr, csr, rfl, hf5⟩ := hI.out.2.2.2.2.2.1 d5
      obtain ⟨gy, csy, rfl, hf9⟩ := hI.out.2.2.2.2.2.2.2.2.2.1 d9
      obtain rfl := hI.out.1 d0
      obtain ⟨_, _, _, _, rfl⟩ := hI.out.2.2.2.2.2.2.2.2.2.2.1 d10
      obtain ⟨g, cg, rfl, hgb, hg, hg4⟩ := hI.out.2.2.2.2.2.2.2.2.2.2.2.1 d11
      obtain ⟨x0, x1, x2, x3, rfl⟩ : ∃ x0 x1 x2 x3, cg = #[x0, x1, x2, x3] := four hg4
      have hgc := hg.cell
      have hgf := hg.frozen
      have hp4 := Lib.hid ((((hg.put 0 (.slice A m c)).put 1 (.slice (some ⟨gl, 0, none⟩) (m + 1) (m + 1))).put 2 (.slice (some ⟨gr, 0, none⟩) 81 81)).put 3 (.slice (some ⟨gy, 0, none⟩) (m + 1) (m + 1)))
      have hkx := Lib.hid (kx_four hg (.slice A m c) (.slice (some ⟨gl, 0, none⟩) (m + 1) (m + 1)) (.slice (some ⟨gr, 0, none⟩) 81 81) (.slice (some ⟨gy, 0, none⟩) (m + 1) (m + 1)))
      have hb4 := Lib.hid ((((hB.setCell (p := ⟨g, 0, none⟩) hgb (.slice A m c)).setCell (p := ⟨g, 1, none⟩) hgb (.slice (some ⟨gl, 0, none⟩) (m + 1) (m + 1))).setCell (p := ⟨g, 2, none⟩) hgb (.slice (some ⟨gr, 0, none⟩) 81 81)).setCell (p := ⟨g, 3, none⟩) hgb (.slice (some ⟨gy, 0, none⟩) (m + 1) (m + 1)))
      refine wpOp_step rfl (fun K hK => ?_)
      go_simp
      refine hK _ _ ⟨by simpa using hz, .pointer (some ⟨g, 0, none⟩), .slice A m c, v10, v11, .slice (some ⟨gl, 0, none⟩) (m + 1) (m + 1), v13, .slice (some ⟨gr, 0, none⟩) 81 81, v15, v16, v17, .slice (some ⟨gy, 0, none⟩) (m + 1) (m + 1), .agg #[.slice A m c, .slice (some ⟨gl, 0, none⟩) (m + 1) (m + 1), .slice (some ⟨gr, 0, none⟩) 81 81, .slice (some ⟨gy, 0, none⟩) (m + 1) (m + 1)], rfl, ?_⟩
      exact ⟨fun e => hI.out.1 (hne.out 0 (by decide) e), fun e => hI.out.2.1 (hne.out 1 (by decide) e), fun e => hI.out.2.2.1 (hne.out 2 (by decide) e), fun e => (by obtain ⟨e1, e2, e3⟩ := hf3; exact ⟨gl, csl, led, rfl, e1, hkx.out _ _ _ e2 (by decide), e3⟩), fun e => hI.out.2.2.2.2.1 (hne.out 4 (by decide) e), fun e => (by obtain ⟨e1, e2, e3⟩ := hf5; exact ⟨gr, csr, rfl, e1, hkx.out _ _ _ e2 (by decide), e3⟩), fun e => hI.out.2.2.2.2.2.2.1 (hne.out 6 (by decide) e), fun e => hI.out.2.2.2.2.2.2.2.1 (hne.out 7 (by decide) e), fun e => hI.out.2.2.2.2.2.2.2.2.1 (hne.out 8 (by decide) e), fun e => (by obtain ⟨e1, e2, e3⟩ := hf9; exact ⟨gy, csy, rfl, e1, hkx.out _ _ _ e2 (by decide), e3⟩), fun e => by (obtain ⟨x0, x3, x5, x9, x⟩ := hI.out.2.2.2.2.2.2.2.2.2.2.1 (hne.out 10 (by decide) e); exact ⟨getD_set_true x0, getD_set_true x3, getD_set_true x5, getD_set_true x9, x⟩), fun e => ⟨g, _, rfl, hgb, hp4.out, by simp⟩, fun _ => ⟨getD_set_true d0, getD_set_true d3, getD_set_true d5, getD_set_true d9, getD_set_true d11, ⟨g, rfl, hgb, by simpa using hp4.out⟩⟩, hb4.out, hb4.out.size, hkx.out _ _ _ hbx (by decide)⟩
  case he =>
    rintro listed a wx ⟨hz, v7, v9, v10, v11, v12, v13, v14, v15, v16, v17, v18, v19, rfl, hI⟩ hr
    have hall := ready_done hz (by kernel_rfl) hr
    have q0 := hI.1 (hall 0 (by decide))
    obtain ⟨gl, csl, led, e12, hgl0, hgl, hla, hl0, hcl⟩ := hI.2.2.2.1 (hall 3 (by decide))
    obtain ⟨gr, csr, e14, hgr0, hgr, hra⟩ := hI.2.2.2.2.2.1 (hall 5 (by decide))
    obtain ⟨gy, csy, e18, hgy0, hgy, hys⟩ := hI.2.2.2.2.2.2.2.2.2.1 (hall 9 (by decide))
    obtain ⟨y0, y3, y5, y9, y11, g, e7, hg0, hg⟩ := hI.2.2.2.2.2.2.2.2.2.2.2.2.1 (hall 12 (by decide))
    have hB : Below w.heap.size w wx := hI.2.2.2.2.2.2.2.2.2.2.2.2.2.1
    subst q0 e12 e14 e18 e7
    clear hI hall hr hz y0 y3 y5 y9 y11
    have hBk := Lib.hid (show Bkp wx w.heap.size g gl gr gy m A c os led (Rw (fun st => ds.getD st.toNat 0) os led m) (Rw (fun st => ds.getD st.toNat 0) os led) m (fun _ => 0) from
      ⟨hg, hH.out.below hB, ⟨csl, hgl, hla⟩, ⟨csr, hgr, hra.congr fun st hst => (if_pos (by omega)).symm⟩, ⟨csy, hgy, hys, fun j h1 h2 => by omega⟩, fun j h1 h2 => by omega, hgr0, hB.size⟩)
    have hB' := Lib.hid hB
    have hl0' := Lib.hid hl0
    have hcl' := Lib.hid hcl
    clear hgl0 hgl hla hl0 hcl hgr0 hgr hra hgy hys hg0 hg hB csl csr csy cL hbox hB0 hmk' hZ hw1 listed
    go_wp2_with fail
    go_loopg [8] m (fun gn v wr => ∃ (k : Nat) (kb : Nat → Nat), k ≤ m ∧ gn = k ∧ v = .int .i64 k ∧ Bkp wr w.heap.size g gl gr gy m A c os led (Rw (fun st => ds.getD st.toNat 0) os led k) (Rw (fun st => ds.getD st.toNat 0) os led) k kb ∧ Below w.heap.size w wr)
    case atStart => exact ⟨m, _, Nat.le_refl _, rfl, rfl, hBk.out, hB'.out⟩
    case round =>
      clear hBk hB'
      obtain ⟨k, kb, hk, hgn, rfl, hBk, hB⟩ := hrel
      have hgk : gk = k := hgn
      clear hgn
      have hBk' := Lib.hid hBk
      have hB' := Lib.hid hB
      by_cases hk0 : k = 0
      · subst hk0
        have hgc := hBk.1.cell
        obtain ⟨csr, hcr, hra⟩ := hBk.2.2.2.1
        have hF := Lib.hid (And.intro hcr hra)
        have hgr0 := hBk.2.2.2.2.2.2.1
        clear hBk hB hcr hra
        go_wp2_with fail
        go_ret
        exact ⟨gr, csr, led, rfl, hgr0, hF.out.1, hF.out.2, hl0'.out, hB'.out⟩
      · obtain ⟨k', hkk⟩ : ∃ k', k = k' + 1 := ⟨k - 1, by omega⟩
        obtain ⟨s, hs⟩ : ∃ s, os[k']? = some s := ⟨_, List.getElem?_eq_getElem (by omega)⟩
        have hso : s.ok = true := hok s (List.mem_of_getElem? hs)
        have hsa : 0 ≤ s.a ∧ s.a ≤ 3 := by
          have := ok_rng (k := s.k) (a := s.a) (b := s.b) (c := s.c) (u := s.u) (v := s.v) (x := s.x) hso
          omega
        have hk1 : (0 : Int) < (k : Int) := by omega
        have hk2 : (k : Int) < (m : Int) + 1 := by omega
        have hk3 : k < m + 1 := by omega
        have hkm : IntKind.i64.wrap ((k : Int) - 1) = (k' : Int) := by rw [IntWalk.i64_in _ (by omega)]; omega
        have hk9 : (0 : Int) ≤ (k : Int) := by omega
        have hSk := Lib.hid (isSkippedTo_any A m c os k wr (hBk.2.1.more hBk.2.2.2.2.2.2.2) hm hM hok)
        have cT := Lib.hid (fun wx (kb : Nat → Nat) (hb : Bkp wx w.heap.size g gl gr gy m A c os led (Rw (fun st => ds.getD st.toNat 0) os led k) (Rw (fun st => ds.getD st.toNat 0) os led) k' kb) => takeBack_any wx w.heap.size g gl gr gy m A c os led (fun st => ds.getD st.toNat 0) kb s k' k' (by rw [← hkk]; exact hb) (by omega) hm hM (by omega) hs hso hsa (hcl'.out k' (by omega)) (fun j st hst hj => hRb.out led j st hst (by omega)))
        have hKk := Lib.hid hkk
        have hgc := hBk.1.cell
        clear hBk hB hs hkk
        by_cases hL : ∃ i, Leads os k i
        · have cS := Lib.hid (hSk.out.mono (R' := fun e w' => e = .returned (.bool true) ∧ Below wr.heap.size wr w') (fun e w' h9 => by
            obtain ⟨b, rfl, hb1, hb2, hb3⟩ := h9
            obtain ⟨i, hi⟩ := hL
            exact ⟨by rw [hb1 i hi], hb3⟩))
          clear hSk hL
          go_wp2_with (first | (go_at_call 88; refine (cS.out).mono ?_; rintro e w3 ⟨rfl, hb3⟩; have hB3 := hBk'.out.below hb3; have hg3 := hB3.1.cell))
          have hB3' := Lib.hid hB3
          have hb3' := Lib.hid hb3
          have hg3h := Lib.hid hB3.1
          obtain ⟨cr3, hcr3, hra3⟩ := hB3.2.2.2.1
          obtain ⟨ks3, hks3, hkz3, _⟩ := hB3.2.2.2.2.1
          have hks3' := Lib.hid hks3
          have hO3 := Lib.hid (IOwn.of_has hcr3 hra3.list (rowL_length _) hB3.2.2.2.2.2.2.1 (show 81 ≤ maxLen by decide))
          have cC3 := Lib.hid (copied_any (some ⟨gr, 0, none⟩) 81 81 (rowL (Rw (fun st => ds.getD st.toNat 0) os led k)) w3.drew (show Ils w3.drew w3.drew.heap.size (some ⟨gr, 0, none⟩) 81 (rowL (Rw (fun st => ds.getD st.toNat 0) os led k)) from IOwn.lst hO3.out) (by decide))
          have hks : k < ks3.size := by omega
          have hgrl := hcr3.lt
          have hgyl := hks3.lt
          clear hb3 hB3 hcr3 hra3 hks3
          go_region_law (first | (go_simp; go_at_call 87; refine (cC3.out).mono ?_; rintro e w5 ⟨rfl, ho5, hb5⟩; have hg5 := (Has.kept (w := w3.drew) (by exact hg3h.out) hb5).cell; have hy5h := Has.kept (w := w3.drew) (by exact hks3'.out) hb5; have hy5 := hy5h.frozen; obtain ⟨u5, hu5⟩ := hy5h.size_cell hks))
          all_goals
            have hb5' : Below w3.heap.size w3 w5 := ((Below.refl _ _).drew).trans hb5
            have ho5' : IOwn w5 w3.heap.size (.slice (some ⟨w3.heap.size, 0, none⟩) 81 81) (rowL (Rw (fun st => ds.getD st.toNat 0) os led k)) := ho5
            obtain ⟨cn, hcn, hrn⟩ := ho5'.rowA (rowL_length _)
            have hKy : KeptBut w3 (w5.setCell ⟨gy, k, none⟩ (.slice (some ⟨w3.heap.size, 0, none⟩) 81 81)) (fun i => i = gy) := KeptBut.put (KeptBut.of_below hb5' (fun i => i = gy)) (p := ⟨gy, k, none⟩) (fun _ => rfl) _
            have hB6 := hB3'.out.kept hKy hKk.out hks3'.out (hy5h.put k (.slice (some ⟨w3.heap.size, 0, none⟩) 81 81)) (by omega) (hcn.far (p := ⟨gy, k, none⟩) (by show w3.heap.size ≠ gy; omega) (.slice (some ⟨w3.heap.size, 0, none⟩) 81 81)) (hrn.congr (fun st hst => rowL_getD hst)) (by omega) hgy0
            have hb6 : Below w.heap.size w (w5.setCell ⟨gy, k, none⟩ (.slice (some ⟨w3.heap.size, 0, none⟩) 81 81)) := (hB'.out.trans ((hb3'.out.trans (hb5'.mono hb3'.out.size)).mono hB'.out.size)).setCell (p := ⟨gy, k, none⟩) hgy0 _
            clear hb5 hb5' ho5 ho5' hcn hrn hKy hy5h hy5 hu5 hg5 hg3 hgc
            generalize w5.setCell ⟨gy, k, none⟩ (.slice (some ⟨w3.heap.size, 0, none⟩) 81 81) = W6 at hB6 hb6 ⊢
            go_wp2_with (first | (go_at_call 89; refine (cT.out _ _ hB6).mono ?_; rintro e w7 ⟨rfl, hB7, hk7⟩))
            have hBn := Lib.hid hB7
            have hbn := Lib.hid (hb6.trans (hk7.below (fun i hi e => by have := hB6.2.2.2.2.2.2.1; omega) hB6.2.2.2.2.2.2.2))
            clear hB7 hk7 hB6 hb6
            go_roundg k'
            case measure => have := hKk.out; omega
            case rel => exact ⟨k', _, by have := hKk.out; omega, rfl, by go_num, hBn.out, hbn.out⟩
        · have cS := Lib.hid (hSk.out.mono (R' := fun e w' => e = .returned (.bool false) ∧ Below wr.heap.size wr w') (fun e w' h9 => by
            obtain ⟨b, rfl, hb1, hb2, hb3⟩ := h9
            cases b with
            | true => exact absurd (hb2 rfl) hL
            | false => exact ⟨rfl, hb3⟩))
          have hno := Lib.hid hL
          clear hSk hL
          go_wp2_with (first
            | (go_at_call 88; refine (cS.out).mono ?_; rintro e w3 ⟨rfl, hb3⟩; have hB3 := hBk'.out.below hb3)
            | (go_at_call 89; refine (cT.out _ _ (hB3.unled hKk.out hno.out)).mono ?_; rintro e w4 ⟨rfl, hB4, hk4⟩))
          have hBn := Lib.hid hB4
          have hbn := Lib.hid (hB'.out.trans ((hb3.mono hB'.out.size).trans (hk4.below (fun i hi e => by have := hB3.2.2.2.2.2.2.1; omega) hB3.2.2.2.2.2.2.2)))
          clear hB4 hk4 hb3 hB3 hgc
          go_roundg k'
          case measure => have := hKk.out; omega
          case rel => exact ⟨k', kb, by have := hKk.out; omega, rfl, by go_num, hBn.out, hbn.out⟩
end Go.Proofs.Ytcphclkaddhfmaa
