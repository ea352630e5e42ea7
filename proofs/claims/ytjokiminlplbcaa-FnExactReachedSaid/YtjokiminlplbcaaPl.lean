/- What lies in memory and hangs on few blocks alone; the laws' helpers over it. -/
import Derived.Test.YtjokiminlplbcaaIMk
import Derived.Test.YtjokiminlplbcaaRmk
namespace Go.Proofs.Ytjokiminlplbcaa
set_option maxRecDepth 100000
set_option linter.unusedVariables false
open Go.RowKit

/-- P hangs on the blocks from lo up to hi alone. -/
def Pl (P : World → Prop) (lo hi : Nat) (w : World) : Prop :=
  P w ∧ hi ≤ w.heap.size ∧ ∀ a b : World, P a → hi ≤ a.heap.size → a.heap.size ≤ b.heap.size → (∀ i, lo ≤ i → i < hi → b.heap[i]? = a.heap[i]?) → P b

theorem Pl.below {P : World → Prop} {lo hi : Nat} {w w' : World} (h : Pl P lo hi w) (hb : Below w.heap.size w w') : Pl P lo hi w' :=
  ⟨h.2.2 w w' h.1 h.2.1 hb.size (fun i _ hi' => hb.block i (Nat.lt_of_lt_of_le hi' h.2.1)), Nat.le_trans h.2.1 hb.size, h.2.2⟩
theorem Pl.drewN {P : World → Prop} {lo hi : Nat} {w : World} (h : Pl P lo hi w) (n : Nat) : Pl P lo hi (w.drewN n) :=
  ⟨h.2.2 w _ h.1 h.2.1 (Nat.le_refl _) (fun _ _ _ => rfl), h.2.1, h.2.2⟩
theorem Pl.but {P : World → Prop} {lo hi : Nat} {w w' : World} {S : Nat → Prop} (h : Pl P lo hi w) (hk : KeptBut w w' S) (hs : ∀ k, S k → ¬ (lo ≤ k ∧ k < hi)) : Pl P lo hi w' :=
  ⟨h.2.2 w w' h.1 h.2.1 hk.size (fun i h1 h2 => hk.block i (Nat.lt_of_lt_of_le h2 h.2.1) (fun e => hs i e ⟨h1, h2⟩)), Nat.le_trans h.2.1 hk.size, h.2.2⟩

/-- A row of the call's own, with the bound of its block. -/
def OwnB (base hi : Nat) (e : TypeId) (size n : Nat) (v : Value) (xs : List Value) (w : World) : Prop := w.ownsRow base e size v n xs ∧ ∀ k, v.ownBlock = some k → k < hi
theorem OwnB.pl {w : World} {base size n : Nat} {e : TypeId} {v : Value} {xs : List Value} (h : w.ownsRow base e size v n xs) : Pl (OwnB base w.heap.size e size n v xs) base w.heap.size w := by
  refine ⟨⟨h, fun k hk => (World.ownsRow.lt h k hk).2⟩, Nat.le_refl _, fun a b ha _ _ hab => ⟨⟨ha.1.1, ?_⟩, ha.2⟩⟩
  rcases ha.1.2 with h0 | ⟨g, cap, cur, hv, hg, hh, rest⟩
  · exact .inl h0
  · exact .inr ⟨g, cap, cur, hv, hg, (hab g hg (ha.2 g (by rw [hv]; rfl))).trans hh, rest⟩
theorem OwnB.blk {w : World} {base hi size n c : Nat} {e : TypeId} {A : Option Addr} {xs : List Value} (h : OwnB base hi e size n (.slice A n c) xs w) : ∀ k, A.map (·.block) = some k → base ≤ k ∧ k < hi := fun k hk => by
  have hk' : (Value.slice A n c).ownBlock = some k := by rw [own_map]; exact hk
  exact ⟨(World.ownsRow.lt h.1 k hk').1, h.2 k hk'⟩

/-- Numbers, and where they lie. -/
def IlsB (lo hi : Nat) (A : Option Addr) (n : Nat) (ds : List Int) (w : World) : Prop := Ils w w.heap.size A n ds ∧ ∀ a, A = some a → lo ≤ a.block ∧ a.block < hi
theorem IlsB.pl {w : World} {lo hi n : Nat} {A : Option Addr} {ds : List Int} (h : Ils w w.heap.size A n ds) (hA : ∀ k, A.map (·.block) = some k → lo ≤ k ∧ k < hi) (hh : hi ≤ w.heap.size) : Pl (IlsB lo hi A n ds) lo hi w := by
  refine ⟨⟨h, fun a e => hA a.block (by rw [e]; rfl)⟩, hh, fun a b ha hs hab hk => ⟨⟨ha.1.1, fun hn => ?_⟩, ha.2⟩⟩
  obtain ⟨g, off, e, hg, hc⟩ := ha.1.2 hn
  have hg2 := ha.2 _ e
  refine ⟨g, off, e, Nat.lt_of_lt_of_le hg hab, fun k d hd => (World.cell?_of_block ?_).trans (hc k d hd)⟩
  exact hk g hg2.1 hg2.2
/-- Statements, and where they lie. -/
def LstB (lo hi : Nat) (A : Option Addr) (n : Nat) (ps : List St) (w : World) : Prop := Lst w w.heap.size A n ps ∧ ∀ a, A = some a → lo ≤ a.block ∧ a.block < hi
theorem LstB.pl {w : World} {lo hi n : Nat} {A : Option Addr} {ps : List St} (h : Lst w w.heap.size A n ps) (hA : ∀ k, A.map (·.block) = some k → lo ≤ k ∧ k < hi) (hh : hi ≤ w.heap.size) : Pl (LstB lo hi A n ps) lo hi w := by
  refine ⟨⟨h, fun a e => hA a.block (by rw [e]; rfl)⟩, hh, fun a b ha hs hab hk => ⟨⟨ha.1.1, fun hn => ?_⟩, ha.2⟩⟩
  obtain ⟨g, off, e, hg, hc⟩ := ha.1.2 hn
  have hg2 := ha.2 _ e
  refine ⟨g, off, e, Nat.lt_of_lt_of_le hg hab, fun k d hd j u hu => (World.cell?_of_block ?_).trans (hc k d hd j u hu)⟩
  exact hk g hg2.1 hg2.2
/-- Rows, and where they lie. -/
def RowsB (lo hi : Nat) (v : Value) (rs : List (List Int)) (vs : List Value) (w : World) : Prop := RowsV w lo v rs vs ∧ (∀ k, v.ownBlock = some k → k < hi) ∧ ∀ x ∈ vs, ∀ k, x.ownBlock = some k → lo ≤ k ∧ k < hi
theorem RowsB.pl {w : World} {base : Nat} {v : Value} {rs : List (List Int)} {vs : List Value} (h : RowsV w base v rs vs) : Pl (RowsB base w.heap.size v rs vs) base w.heap.size w := by
  refine ⟨⟨h, fun k hk => (World.ownsRow.lt h.1 k hk).2, fun x hx k hk => ?_⟩, Nat.le_refl _, fun a b ha _ _ hab => ⟨⟨⟨ha.1.1.1, ?_⟩, fun i x hx => ?_⟩, ha.2⟩⟩
  · obtain ⟨i, hi, hie⟩ := List.getElem_of_mem hx
    obtain ⟨ds, _, ho⟩ := h.2 i x (by rw [List.getElem?_eq_getElem hi, hie])
    exact World.ownsRow.lt ho k hk
  · rcases ha.1.1.2 with h0 | ⟨g, cap, cur, hv, hg, hh, rest⟩
    · exact .inl h0
    · exact .inr ⟨g, cap, cur, hv, hg, (hab g hg (ha.2.1 g (by rw [hv]; rfl))).trans hh, rest⟩
  · obtain ⟨ds, hds, ho⟩ := ha.1.2 i x hx
    refine ⟨ds, hds, ho.1, ?_⟩
    rcases ho.2 with h0 | ⟨g, cap, cur, hv, hg, hh, rest⟩
    · exact .inl h0
    · exact .inr ⟨g, cap, cur, hv, hg, (hab g hg (ha.2.2 x (List.mem_of_getElem? hx) g (by rw [hv]; rfl)).2).trans hh, rest⟩
def MkdB (lo hi : Nat) (A : Option Addr) (n c : Nat) (rs : List (List Int)) (vs : List Value) (m : Int) (w : World) : Prop := Mkd w lo A n c rs vs m ∧ (∀ k, (Value.slice A n c).ownBlock = some k → k < hi) ∧ ∀ x ∈ vs, ∀ k, x.ownBlock = some k → lo ≤ k ∧ k < hi
theorem MkdB.pl {w : World} {lo hi n c : Nat} {A : Option Addr} {rs : List (List Int)} {vs : List Value} {m : Int} (h : Mkd w lo A n c rs vs m) (h1 : ∀ k, (Value.slice A n c).ownBlock = some k → k < hi) (h2 : ∀ x ∈ vs, ∀ k, x.ownBlock = some k → lo ≤ k ∧ k < hi) (hh : hi ≤ w.heap.size) : Pl (MkdB lo hi A n c rs vs m) lo hi w := by
  refine ⟨⟨h, h1, h2⟩, hh, fun a b ha hs hab hk => ⟨⟨⟨ha.1.1.1, ?_⟩, fun i ds hds => ?_⟩, ha.2⟩⟩
  · rcases ha.1.1.2 with h0 | ⟨g, cap, cur, hv, hg, hh, rest⟩
    · exact .inl h0
    · exact .inr ⟨g, cap, cur, hv, hg, (hk g hg (ha.2.1 g (by rw [hv]; rfl))).trans hh, rest⟩
  · obtain ⟨Ax, cx, hx, hi⟩ := ha.1.2 i ds hds
    refine ⟨Ax, cx, hx, hi.1, fun hn => ?_⟩
    obtain ⟨g, off, e, hg, hc⟩ := hi.2 hn
    have hg2 := ha.2.2 _ (List.mem_of_getElem? hx) g (by rw [e]; rfl)
    refine ⟨g, off, e, Nat.lt_of_lt_of_le hg hab, fun k d hd => (World.cell?_of_block ?_).trans (hc k d hd)⟩
    exact hk g hg2.1 hg2.2

theorem Own.of_has {w : World} {base g n : Nat} {cs : Array Value} {ps : List St} (h : Has w g 83 cs) (hf : cs.toList = flat ps) (hL : ps.length = n) (hg : base ≤ g) (hm : n ≤ maxLen) : w.ownsRow base 83 7 (.slice (some ⟨g, 0, none⟩) n n) n (flat ps) := by
  have hs : cs.size = n * 7 := by
    have := congrArg List.length hf
    rw [flat_length] at this
    simpa [hL] using this
  refine ⟨by rw [flat_length, hL], .inr ⟨g, n, cs, rfl, hg, h, Nat.le_refl _, hm, hs, ?_⟩⟩
  rw [hf, List.take_of_length_le (by rw [flat_length, hL]; exact Nat.le_refl _)]
theorem ownS_lst {w : World} {base n c : Nat} {A : Option Addr} {ps : List St} (h : w.ownsRow base 83 7 (.slice A n c) n (flat ps)) : Lst w w.heap.size A n ps := by
  have hl : ps.length = n := by have := h.1; rw [flat_length] at this; omega
  subst hl
  exact Own.lst h
theorem ownI_lst {w : World} {base n c : Nat} {A : Option Addr} {ds : List Int} (h : w.ownsRow base 3 1 (.slice A n c) n (ints ds)) : Ils w w.heap.size A n ds := by
  have hl : ds.length = n := by have := h.1; rw [ints_length] at this; omega
  subst hl
  exact IOwn.lst h
theorem ownS_wr {w : World} {base n c : Nat} {A : Option Addr} {xs : List Value} (h : w.ownsRow base 83 7 (.slice A n c) n xs) : Wr w A n := by
  intro hn
  rcases h.2 with ⟨hv, h0⟩ | ⟨g, cap, cur, hv, hg, hh, h1, h2, h3, h4⟩
  · omega
  · injection hv with e1 e2 _
    exact ⟨g, cur, e1, hh, by rw [h3]; exact Nat.mul_le_mul_right _ h1⟩
theorem ownI_wr {w : World} {base n c : Nat} {A : Option Addr} {xs : List Value} (h : w.ownsRow base 3 1 (.slice A n c) n xs) : IWr w A n := by
  intro hn
  rcases h.2 with ⟨hv, h0⟩ | ⟨g, cap, cur, hv, hg, hh, h1, h2, h3, h4⟩
  · omega
  · injection hv with e1 e2 _
    exact ⟨g, cur, e1, hh, by omega⟩

/-- The laws' copies. -/
theorem toStmtS_own (A : Option Addr) (n c : Nat) (ps : List St) (w : World) (h : Lst w w.heap.size A n ps) (hn : n ≤ 1048576) :
    Calls Try.prog 41 #[.slice A n c] w fun e w' => ∃ g, e = .returned (.slice (some ⟨g, 0, none⟩) n n) ∧ Pl (OwnB w.heap.size w'.heap.size 83 7 n (.slice (some ⟨g, 0, none⟩) n n) (flat ps)) w.heap.size w'.heap.size w' ∧ Below w.heap.size w w' := by
  have hL := h.1
  refine (toStmtS_any A n c ps w h hn).mono ?_
  rintro e w1 ⟨g, cs, rfl, hg, hh, hf, hb⟩
  exact ⟨g, rfl, OwnB.pl (Own.of_has hh hf hL hg (by unfold maxLen; omega)), hb⟩
theorem toIntS_own (A : Option Addr) (n c : Nat) (ds : List Int) (w : World) (h : Ils w w.heap.size A n ds) (hn : n ≤ 1048576) :
    Calls Try.prog 52 #[.slice A n c] w fun e w' => ∃ g, e = .returned (.slice (some ⟨g, 0, none⟩) n n) ∧ Pl (OwnB w.heap.size w'.heap.size 3 1 n (.slice (some ⟨g, 0, none⟩) n n) (ints ds)) w.heap.size w'.heap.size w' ∧ Below w.heap.size w w' := by
  have hL := h.1
  refine (toIntS_any A n c ds w h hn).mono ?_
  rintro e w1 ⟨g, rfl, hg, ho, hb⟩
  unfold IOwn at ho
  rw [hL] at ho
  exact ⟨g, rfl, OwnB.pl ho, hb⟩
theorem eqIntS_same (A A2 : Option Addr) (n c c2 : Nat) (ds : List Int) (w : World) (h : Ils w w.heap.size A n ds) (h2 : Ils w w.heap.size A2 n ds) (hn : n ≤ maxLen) :
    Calls Try.prog 47 #[.slice A n c, .slice A2 n c2] w fun e w' => e = .returned (.bool true) ∧ ∃ k, w' = w.drewN k := by
  have := eqIntS_any A A2 n n c c2 ds ds w h h2 hn hn
  rwa [decide_eq_true (rfl : ds = ds)] at this

/-- Marks. -/
theorem only_but {w w' : World} {A : Option Addr} (h : Only w w' A) : KeptBut w w' (fun k => A.map (·.block) = some k) := KeptBut.of_grown h (fun k e => e)
theorem below_but {W w w' : World} {S : Nat → Prop} (hB : Below W.heap.size W w) (hk : KeptBut w w' S) (hs : ∀ k, S k → W.heap.size ≤ k) : Below W.heap.size W w' :=
  hB.trans (hk.below (B := W.heap.size) (fun i hi e => by have := hs i e; omega) hB.size)
theorem markS_pl (A : Option Addr) (n c lo hi : Nat) (m : Int) (xs : List Value) (w : World) (h : Pl (OwnB lo hi 83 7 n (.slice A n c) xs) lo hi w) (hm : 1 ≤ m) (hm2 : m ≤ 1000000000) (hn : n ≤ 100000000) :
    Calls Try.prog 44 #[.slice A n c, .int .i64 m] w fun e w' => e = .returned (.int .i64 (m + 7 * n)) ∧ KeptBut w w' (fun k => lo ≤ k ∧ k < hi) ∧ Pl (LstB lo hi A n (marks m n)) lo hi w' := by
  refine (markStmtS_any A n c m w (ownS_wr h.1.1) hm hm2 hn).mono ?_
  rintro e w1 ⟨rfl, ho, hl⟩
  have hA := OwnB.blk h.1
  exact ⟨rfl, (only_but ho).mono (fun k _ e => hA k e), LstB.pl hl hA (Nat.le_trans h.2.1 ho.size)⟩
theorem markI_pl (A : Option Addr) (n c lo hi : Nat) (m : Int) (xs : List Value) (w : World) (h : Pl (OwnB lo hi 3 1 n (.slice A n c) xs) lo hi w) (hm : 0 ≤ m) (hm2 : m ≤ 1000000000000) (hn : n ≤ 100000000) :
    Calls Try.prog 48 #[.slice A n c, .int .i64 m] w fun e w' => e = .returned (.int .i64 (m + n)) ∧ KeptBut w w' (fun k => lo ≤ k ∧ k < hi) ∧ Pl (IlsB lo hi A n (nums m n)) lo hi w' := by
  refine (markIntS_any A n c m w (ownI_wr h.1.1) hm hm2 hn).mono ?_
  rintro e w1 ⟨rfl, ho, hl⟩
  have hA := OwnB.blk h.1
  exact ⟨rfl, (only_but ho).mono (fun k _ e => hA k e), IlsB.pl hl hA (Nat.le_trans h.2.1 ho.size)⟩
theorem markR_pl (A : Option Addr) (n c lo hi : Nat) (m : Int) (rs : List (List Int)) (vs : List Value) (w : World) (h : Pl (RowsB lo hi (.slice A n c) rs vs) lo hi w) (ha : Apart vs) (hL : rs.length = n) (hm : 0 ≤ m) (hm2 : m ≤ 1000) (hn : n ≤ 1000000) (hr : ∀ ds ∈ rs, ds.length ≤ 1000) :
    Calls Try.prog 45 #[.slice A n c, .int .i64 m] w fun e w' => e = .returned (.int .i64 (m + offs rs n)) ∧ KeptBut w w' (fun k => lo ≤ k ∧ k < hi) ∧ Pl (MkdB lo hi A n c rs vs m) lo hi w' := by
  refine (markIntSS_any A n c lo rs vs m w h.1.1 ha hL hm hm2 hn hr).mono ?_
  rintro e w1 ⟨rfl, hk, hb⟩
  exact ⟨rfl, hb.mono (fun k _ ⟨i, x, _, hx, hxk⟩ => h.1.2.2 x (List.mem_of_getElem? hx) k hxk), MkdB.pl hk h.1.2.1 h.1.2.2 (Nat.le_trans h.2.1 hb.size)⟩
end Go.Proofs.Ytjokiminlplbcaa
