/- Parts of the proof: Nw. -/
import Derived.Test.YtdpeaabdpolmoaaZAB
import Derived.Test.YtdpeaabdpolmoaaZAN
namespace Go.Proofs.Ytdpeaabdpolmoaa
set_option maxRecDepth 100000
set_option linter.unusedVariables false
open Go.RowKit
theorem Rws.form {w : World} {base : Nat} {v : Value} {ds : List Int} (h : Rws w base v ds) : ∃ A c, v = .slice A ds.length c ∧ True ∧ True := by
  rcases h with ⟨rfl, rfl⟩ | ⟨g, off, T, cs, rfl, _⟩
  · exact ⟨none, 0, rfl, trivial, trivial⟩
  · exact ⟨_, _, rfl, trivial, trivial⟩
def RwB (lo hi n : Nat) (v : Value) (ds : List Int) (w : World) : Prop := Rws w lo v ds ∧ n = ds.length ∧ ∀ k, v.ownBlock = some k → lo ≤ k ∧ k < hi
theorem RwB.pl {w : World} {base : Nat} {v : Value} {ds : List Int} (h : Rws w base v ds) : Pl (RwB base w.heap.size ds.length v ds) base w.heap.size w := by
  refine ⟨⟨h, rfl, fun k hk => ?_⟩, Nat.le_refl _, fun a b ha _ _ hab => ⟨?_, ha.2⟩⟩
  · rcases h with ⟨rfl, rfl⟩ | ⟨g, off, T, cs, rfl, hg, hh, _⟩
    · cases hk
    · have e : g = k := by injection hk
      subst e
      exact ⟨hg, Has.lt hh⟩
  · rcases ha.1 with h0 | ⟨g, off, T, cs, hv, hg, hh, hc⟩
    · exact .inl h0
    · exact .inr ⟨g, off, T, cs, hv, hg, (hab g hg (ha.2.2 g (by rw [hv]; rfl)).2).trans hh, hc⟩
theorem RwB.lst {w : World} {lo hi n c : Nat} {A : Option Addr} {ds : List Int} (h : RwB lo hi n (.slice A n c) ds w) : Ils w w.heap.size A n ds := by
  rcases h.1 with ⟨hv, hd⟩ | ⟨g, off, T, cs, hv, hg, hh, hc⟩
  · exact ⟨h.2.1.symm, fun h0 => by have := h.2.1; rw [hd] at this; simp at this; omega⟩
  · injection hv with e1 e2 _
    exact ⟨h.2.1.symm, fun _ => ⟨g, off, e1, Has.lt hh, fun k d hk => (Has.cell hh _).trans (hc k d hk)⟩⟩
def IMo (cs : Array Value) (off : Nat) (m : Int) (n k : Nat) : Prop := off + n ≤ cs.size ∧ ∀ i, i < k → cs[off + i]? = some (.int .i64 (m + i))
theorem IMo.step {cs : Array Value} {off : Nat} {m : Int} {n k : Nat} (h : IMo cs off m n k) (hk : k < n) : IMo (cs.setIfInBounds (off + k) (.int .i64 (m + k))) off m n (k + 1) := by
  refine ⟨by simpa using h.1, fun i hi => ?_⟩
  by_cases hik : i = k
  · subst hik
    have := h.1
    rw [Array.getElem?_setIfInBounds, if_pos rfl, if_pos (by omega)]
  · rw [Array.getElem?_setIfInBounds, if_neg (by omega)]
    exact h.2 i (by omega)
theorem IMo.lst {w : World} {g n off : Nat} {T : TypeId} {cs : Array Value} {m : Int} (hh : Has w g T cs) (h : IMo cs off m n n) : Ils w w.heap.size (some ⟨g, off, none⟩) n (nums m n) := by
  refine ⟨nums_length m n, fun _ => ⟨g, off, rfl, hh.lt, fun k d hd => ?_⟩⟩
  have hk : k < n := by have := (List.getElem?_eq_some_iff.1 hd).1; rwa [nums_length] at this
  rw [nums_get m hk] at hd
  obtain rfl := Option.some.inj hd
  rw [hh.cell]
  exact h.2 k hk
theorem only_puto {w wr : World} {g i : Nat} (h : w.grownBy wr (some g)) (x : Value) : w.grownBy (wr.setCell ⟨g, i, none⟩ x) (some g) := only_put h i x
theorem markIntS_mid (g off n c : Nat) (T : TypeId) (cs0 : Array Value) (m : Int) (w : World) (h : Has w g T cs0) (hs : off + n ≤ cs0.size) (hm : 0 ≤ m) (hm2 : m ≤ 1000000000000) (hn : n ≤ 100000000) :
    Calls Try.prog 24 #[.slice (some ⟨g, off, none⟩) n c, .int .i64 m] w fun e w' => e = .returned (.int .i64 (m + n)) ∧ Only w w' (some ⟨g, off, none⟩) ∧ Ils w' w'.heap.size (some ⟨g, off, none⟩) n (nums m n) := by
  have hH0 := Lib.hid h
  clear h
  go_enter Try.func24, Try.ntmps24
  go_wp2
  go_loopw [1, 5] (fun q i wr => ∃ (k : Nat) (cs : Array Value), k ≤ n ∧ i = .int .i64 k ∧ q = .int .i64 (m + k) ∧ Has wr g T cs ∧ IMo cs off m n k ∧ w.grownBy wr (some g)) (fun _ i _ => n - (intOf i).toNat)
  case atStart => exact ⟨0, cs0, Nat.zero_le _, rfl, by simp, hH0.out, ⟨hs, fun i hi => absurd hi (by omega)⟩, World.grownBy.refl w _⟩
  case round =>
    obtain ⟨k, cs, hk, rfl, rfl, hhas, hmk, hgr⟩ := hrel
    have hHas := Lib.hid hhas
    have hMk := Lib.hid hmk
    have hGr := Lib.hid hgr
    clear hgr
    by_cases hlt : k < n
    · have hfz := hhas.frozen
      have hsz := hmk.1
      obtain ⟨u0, e0⟩ := hhas.size_cell (x := off + k) (by omega)
      have hN := Lib.hid (hhas.put (off + k) (.int .i64 (m + k)))
      have hG := Lib.hid (only_puto (i := off + k) hGr.out (.int .i64 (m + k)))
      clear hhas hmk
      go_wp2
      go_roundw
      case rel => exact ⟨k + 1, _, by omega, by go_num, congrArg (Value.int .i64) (by omega), hN.out, hMk.out.step hlt, hG.out⟩
      case measure => (simp [intOf]; try omega)
    · obtain rfl : n = k := by omega
      have hLs := Lib.hid (IMo.lst hHas.out hMk.out)
      clear hhas hmk
      go_wp2
      go_ret
      exact ⟨rfl, hGr.out, hLs.out⟩
theorem markM_pl (A : Option Addr) (n c lo hi : Nat) (m : Int) (ds : List Int) (w : World) (h : Pl (RwB lo hi n (.slice A n c) ds) lo hi w) (hm : 0 ≤ m) (hm2 : m ≤ 1000000000000) (hn : n ≤ 100000000) :
    Calls Try.prog 24 #[.slice A n c, .int .i64 m] w fun e w' => e = .returned (.int .i64 (m + n)) ∧ KeptBut w w' (fun k => lo ≤ k ∧ k < hi) ∧ Pl (IlsB lo hi A n (nums m n)) lo hi w' := by
  have hA : ∀ k, A.map (·.block) = some k → lo ≤ k ∧ k < hi := fun k hk => h.1.2.2 k (by rw [own_map]; exact hk)
  by_cases h0 : n = 0
  · subst h0
    refine (markIntS_any A 0 c m w (fun h0 => absurd h0 (by omega)) hm hm2 hn).mono ?_
    rintro e w1 ⟨rfl, ho, hl⟩
    exact ⟨rfl, (only_but ho).mono (fun k _ e => hA k e), IlsB.pl hl hA (Nat.le_trans h.2.1 ho.size)⟩
  rcases h.1.1 with ⟨hv, hd⟩ | ⟨g, off, T, cs, hv, hg, hh, hc⟩
  · injection hv with e1 e2 e3
    exact absurd e2 h0
  · injection hv with e1 e2 e3
    subst e1
    have hs : off + n ≤ cs.size := by
      have h1 := hc (n - 1) (ds.getD (n - 1) 0) (by rw [List.getD_eq_getElem?_getD, List.getElem?_eq_getElem (by omega)]; rfl)
      have := (Array.getElem?_eq_some_iff.1 h1).1
      omega
    refine (markIntS_mid g off n c T cs m w hh hs hm hm2 hn).mono ?_
    rintro e w1 ⟨rfl, ho, hl⟩
    exact ⟨rfl, (only_but ho).mono (fun k _ e => hA k e), IlsB.pl hl hA (Nat.le_trans h.2.1 ho.size)⟩
end Go.Proofs.Ytdpeaabdpolmoaa
