/- Parts of the proof: LH. -/
import Derived.Test.YtghkpmafocacoaaZAK
namespace Go.Proofs.Ytghkpmafocacoaa
set_option maxRecDepth 100000
set_option linter.unusedVariables false
open Go.RowKit
/-- A sum over some variables of a product of numbers, each of one variable (u, u) or of two. -/
structure Itm where
  bs : List Nat
  ats : List (Nat × Nat)
def upd (e : Nat → Nat) (b x : Nat) : Nat → Nat := fun v => if v = b then x else e v
def sumB (f : (Nat → Nat) → Int) : List Nat → (Nat → Nat) → Int
  | [], e => f e
  | b :: r, e => sum3 fun x => sumB f r (upd e b x)
def prodB (r : Nat → Nat → (Nat → Nat) → Int) (l : List (Nat × Nat)) (e : Nat → Nat) : Int := l.foldr (fun p m => r p.1 p.2 e * m) 1
/-- Each number hangs on its own variables alone. -/
def Loc (r : Nat → Nat → (Nat → Nat) → Int) : Prop := ∀ u t e e', e u = e' u → e t = e' t → r u t e = r u t e'
def Itm.ev (r : Nat → Nat → (Nat → Nat) → Int) (I : Itm) (e : Nat → Nat) : Int := sumB (prodB r I.ats) I.bs e
/-- The variables of an item. -/
def Itm.has (I : Itm) (v : Nat) : Bool := I.ats.any fun p => p.1 == v || p.2 == v
def mulI (I J : Itm) : Option Itm := if (I.bs.all fun b => !J.has b) && (J.bs.all fun b => !I.has b && !I.bs.contains b) then some ⟨I.bs ++ J.bs, I.ats ++ J.ats⟩ else none
def bindI (u : Nat) (I : Itm) : Itm := ⟨u :: I.bs, I.ats⟩
theorem prodB_app (r : Nat → Nat → (Nat → Nat) → Int) (b : List (Nat × Nat)) (e : Nat → Nat) : ∀ a, prodB r (a ++ b) e = prodB r a e * prodB r b e
  | [] => by show prodB r b e = 1 * prodB r b e; rw [Int.one_mul]
  | p :: a => by
    show r p.1 p.2 e * prodB r (a ++ b) e = r p.1 p.2 e * prodB r a e * prodB r b e
    rw [prodB_app r b e a, Int.mul_assoc]
theorem prodB_loc {r : Nat → Nat → (Nat → Nat) → Int} (hr : Loc r) {e e' : Nat → Nat} : ∀ {l : List (Nat × Nat)}, (∀ p ∈ l, e p.1 = e' p.1 ∧ e p.2 = e' p.2) → prodB r l e = prodB r l e'
  | [], _ => rfl
  | p :: l, h => by
    show r p.1 p.2 e * prodB r l e = r p.1 p.2 e' * prodB r l e'
    have hp := h p List.mem_cons_self
    rw [hr p.1 p.2 e e' hp.1 hp.2, prodB_loc hr fun q hq => h q (List.mem_cons_of_mem _ hq)]
/-- Independent of a variable. -/
def Free (f : (Nat → Nat) → Int) (b : Nat) : Prop := ∀ e x, f (upd e b x) = f e
theorem prodB_free {r : Nat → Nat → (Nat → Nat) → Int} (hr : Loc r) {l : List (Nat × Nat)} {b : Nat} (h : (l.any fun p => p.1 == b || p.2 == b) = false) : Free (prodB r l) b := fun e x => prodB_loc hr fun p hp => by
  have := List.any_eq_false.1 h p hp
  simp at this
  unfold upd
  rw [if_neg this.1, if_neg this.2]
  exact ⟨rfl, rfl⟩
theorem upd_comm {e : Nat → Nat} {a b x y : Nat} (h : a ≠ b) : upd (upd e a x) b y = upd (upd e b y) a x := by
  funext v
  unfold upd
  by_cases h1 : v = b
  · rw [if_pos h1]
    by_cases h2 : v = a
    · exact absurd (h2.symm.trans h1) h
    · rw [if_neg h2, if_pos h1]
  · rw [if_neg h1]
    by_cases h2 : v = a
    · rw [if_pos h2, if_pos h2]
    · rw [if_neg h2, if_neg h2, if_neg h1]
theorem upd_same (e : Nat → Nat) (b x y : Nat) : upd (upd e b x) b y = upd e b y := by
  funext v
  unfold upd
  split <;> rfl
theorem sum3_congr {f h : Nat → Int} (e : ∀ x, f x = h x) : sum3 f = sum3 h := by
  unfold sum3
  rw [e, e, e]
theorem sumB_free {f : (Nat → Nat) → Int} {b : Nat} (hf : Free f b) : ∀ bs, Free (sumB f bs) b
  | [] => hf
  | c :: r => fun e x => sum3_congr fun y => by
    by_cases h : b = c
    · subst h
      rw [upd_same]
    · rw [upd_comm h]
      exact sumB_free hf r (upd e c y) x
theorem sumB_left {P Q : (Nat → Nat) → Int} : ∀ (bs : List Nat), (∀ b ∈ bs, Free Q b) → ∀ e, sumB P bs e * Q e = sumB (fun e => P e * Q e) bs e
  | [], _, _ => rfl
  | b :: r, h, e => by
    have hb := h b List.mem_cons_self
    show sum3 (fun x => sumB P r (upd e b x)) * Q e = sum3 fun x => sumB (fun e => P e * Q e) r (upd e b x)
    have key : ∀ x, sumB P r (upd e b x) * Q e = sumB (fun e => P e * Q e) r (upd e b x) := fun x => by
      rw [← sumB_left r (fun c hc => h c (List.mem_cons_of_mem _ hc)) (upd e b x), hb e x]
    unfold sum3
    dsimp only
    rw [← key 0, ← key 1, ← key 2, Int.add_mul, Int.add_mul]
theorem sumB_right {P Q : (Nat → Nat) → Int} (bs : List Nat) (h : ∀ b ∈ bs, Free P b) (e : Nat → Nat) : P e * sumB Q bs e = sumB (fun e => P e * Q e) bs e := by
  have := sumB_left (P := Q) (Q := P) bs h e
  rw [Int.mul_comm, this]
  congr 1
  funext e
  exact Int.mul_comm _ _
theorem sumB_app (f : (Nat → Nat) → Int) (c : List Nat) : ∀ (b : List Nat) (e : Nat → Nat), sumB f (b ++ c) e = sumB (sumB f c) b e
  | [], _ => rfl
  | x :: b, e => sum3_congr fun y => sumB_app f c b (upd e x y)
theorem sumB_congr {f h : (Nat → Nat) → Int} (e : ∀ x, f x = h x) (bs : List Nat) (y : Nat → Nat) : sumB f bs y = sumB h bs y := by rw [funext e]
theorem mulI_ev {r : Nat → Nat → (Nat → Nat) → Int} (hr : Loc r) {I J K : Itm} (h : mulI I J = some K) (e : Nat → Nat) : K.ev r e = I.ev r e * J.ev r e := by
  unfold mulI at h
  split at h
  · rename_i hc
    rw [Bool.and_eq_true] at hc
    obtain rfl := Option.some.inj h
    have h1 : ∀ b ∈ I.bs, Free (prodB r J.ats) b := fun b hb => prodB_free hr (by simpa [Itm.has] using List.all_eq_true.1 hc.1 b hb)
    have h2 : ∀ b ∈ J.bs, Free (prodB r I.ats) b := fun b hb => prodB_free hr (by
      have := List.all_eq_true.1 hc.2 b hb
      rw [Bool.and_eq_true] at this
      simpa [Itm.has] using this.1)
    show sumB (prodB r (I.ats ++ J.ats)) (I.bs ++ J.bs) e = sumB (prodB r I.ats) I.bs e * sumB (prodB r J.ats) J.bs e
    rw [sumB_left I.bs (fun b hb => sumB_free (h1 b hb) J.bs) e, sumB_app]
    refine sumB_congr (fun x => ?_) I.bs e
    rw [sumB_right J.bs h2 x]
    exact sumB_congr (fun y => prodB_app r J.ats y I.ats) J.bs x
  · cases h
theorem bindI_ev (r : Nat → Nat → (Nat → Nat) → Int) (u : Nat) (I : Itm) (e : Nat → Nat) : (bindI u I).ev r e = sum3 fun x => I.ev r (upd e u x) := rfl
theorem sumB_perm {f : (Nat → Nat) → Int} {a b : List Nat} (h : a.Perm b) : a.Nodup → ∀ e, sumB f a e = sumB f b e := by
  induction h with
  | nil => exact fun _ _ => rfl
  | cons x _ ih => exact fun hn e => sum3_congr fun y => ih (List.nodup_cons.1 hn).2 (upd e x y)
  | swap x y l =>
    intro hn e
    have hne : y ≠ x := fun q => by
      have := (List.nodup_cons.1 hn).1
      exact this (q ▸ List.mem_cons_self)
    show sum3 (fun p => sum3 fun q => sumB f l (upd (upd e y p) x q)) = sum3 fun p => sum3 fun q => sumB f l (upd (upd e x p) y q)
    have key : ∀ p q, sumB f l (upd (upd e y p) x q) = sumB f l (upd (upd e x q) y p) := fun p q => by rw [upd_comm hne]
    unfold sum3
    dsimp only
    rw [key 0 0, key 0 1, key 0 2, key 1 0, key 1 1, key 1 2, key 2 0, key 2 1, key 2 2]
    omega
  | trans h1 h2 ih1 ih2 => exact fun hn e => (ih1 hn e).trans (ih2 (h1.nodup_iff.1 hn) e)
theorem prodB_perm (r : Nat → Nat → (Nat → Nat) → Int) (e : Nat → Nat) {a b : List (Nat × Nat)} (h : a.Perm b) : prodB r a e = prodB r b e := by
  induction h with
  | nil => rfl
  | cons x _ ih => show r x.1 x.2 e * _ = r x.1 x.2 e * _; rw [show List.foldr _ _ _ = _ from ih]; rfl
  | swap x y l => show r y.1 y.2 e * (r x.1 x.2 e * _) = r x.1 x.2 e * (r y.1 y.2 e * _); rw [Int.mul_left_comm]
  | trans _ _ ih1 ih2 => exact ih1.trans ih2
/-- Two variables, the lesser one first. -/
def prI (u t : Nat) : Nat × Nat := if Nat.ble u t then (u, t) else (t, u)
/-- What a variable tells another, as an item of the other one. -/
def itFold (m : Nat → Option Itm) (u : Nat) (l : List Nat) : Option Itm := l.foldl (fun o w => o.bind fun I => (m w).bind fun J => mulI I J) (some ⟨[], [(u, u)]⟩)
def itMsg (g : Gr) : Nat → Nat → Nat → Option Itm
  | 0, _, _ => none
  | n + 1, u, t => (itFold (fun w => itMsg g n w u) u (nbs g u t)).bind fun I => (mulI I ⟨[], [prI u t]⟩).map (bindI u)
def itAll (g : Gr) (u : Nat) : Option Itm := itFold (fun w => itMsg g 3 w u) u (nbs g u 4)
/-- The totals of the other trees. -/
def itRest (g : Gr) (v : Nat) : Option Itm := ((List.range 4).filter fun u => g.root u == u && g.root v != u).foldl (fun o u => o.bind fun I => ((itAll g u).map (bindI u)).bind fun J => mulI I J) (some ⟨[], []⟩)
def edges (g : Gr) : List (Nat × Nat) := ([(0, 1), (0, 2), (0, 3), (1, 2), (1, 3), (2, 3)] : List (Nat × Nat)).filter fun p => (g.nx p.1).testBit p.2
def others (v : Nat) : List Nat := (List.range 4).filter fun u => u != v
def wholeOk (g : Gr) (v : Nat) : Bool := match (itAll g v).bind fun I => (itRest g v).bind fun J => mulI I J with
  | none => false
  | some K => K.bs.isPerm (others v) && K.ats.isPerm ([(0, 0), (1, 1), (2, 2), (3, 3)] ++ edges g)
theorem whole_ok (g : Gr) : g.acy = true → ∀ v : Fin 4, wholeOk g v.val = true :=
  gr_all (P := fun g => g.acy = true → ∀ v : Fin 4, wholeOk g v.val = true) (by decide +kernel) g
/-- The numbers of a list of factors. -/
def rF (Fs : List Fac) (u t : Nat) (e : Nat → Nat) : Int := if u = t then ownL Fs u (e u) else fAt (btw Fs u t) (st2 u (e u) t (e t))
theorem rF_loc (Fs : List Fac) : Loc (rF Fs) := fun u t e e' h1 h2 => by
  unfold rF
  rw [h1, h2]
def E3 (e : Nat → Nat) : Prop := ∀ v, e v < 3
theorem E3.upd {e : Nat → Nat} (h : E3 e) (b : Nat) {x : Nat} (hx : x < 3) : E3 (upd e b x) := fun v => by
  unfold Go.Proofs.Ytghkpmafocacoaa.upd
  split
  · exact hx
  · exact h v
theorem sum3_congr3 {f h : Nat → Int} (e : ∀ x, x < 3 → f x = h x) : sum3 f = sum3 h := by
  unfold sum3
  rw [e 0 (by decide), e 1 (by decide), e 2 (by decide)]
theorem pair_ev (Fs : List Fac) {u t : Nat} (hu : u ≤ 3) (ht : t ≤ 3) (hn : u ≠ t) {e : Nat → Nat} (he : E3 e) : (⟨[], [prI u t]⟩ : Itm).ev (rF Fs) e = fAt (btw Fs u t) (st2 u (e u) t (e t)) := by
  show rF Fs (prI u t).1 (prI u t).2 e * 1 = _
  rw [Int.mul_one]
  unfold prI
  split
  · unfold rF
    rw [if_neg hn]
  · unfold rF
    dsimp only
    rw [if_neg fun q => hn q.symm, btw_sym Fs t u, st2_sym ⟨t, by omega⟩ ⟨u, by omega⟩ (fun q => hn (congrArg Fin.val q).symm) ⟨e t, he t⟩ ⟨e u, he u⟩]
theorem fold_none (m : Nat → Option Itm) : ∀ l : List Nat, l.foldl (fun o w => o.bind fun I => (m w).bind fun J => mulI I J) (none : Option Itm) = none
  | [] => rfl
  | w :: r => fold_none m r
theorem fold_ev {r : Nat → Nat → (Nat → Nat) → Int} (hr : Loc r) (m : Nat → Option Itm) (M : Nat → Int) (e : Nat → Nat) : ∀ (l : List Nat) (I0 K : Itm), (∀ w ∈ l, ∀ J, m w = some J → J.ev r e = M w) →
    l.foldl (fun o w => o.bind fun I => (m w).bind fun J => mulI I J) (some I0) = some K → K.ev r e = l.foldl (fun p w => p * M w) (I0.ev r e)
  | [], I0, K, _, h => by
    obtain rfl := Option.some.inj (show some I0 = some K from h)
    rfl
  | w :: l, I0, K, hm, h => by
    rw [List.foldl_cons] at h ⊢
    cases hw : m w with
    | none =>
      rw [show (some I0).bind (fun I => (m w).bind fun J => mulI I J) = none by rw [hw]; rfl, fold_none] at h
      cases h
    | some J =>
      cases hk : mulI I0 J with
      | none =>
        rw [show (some I0).bind (fun I => (m w).bind fun J => mulI I J) = none by rw [hw]; exact hk, fold_none] at h
        cases h
      | some I1 =>
        rw [show (some I0).bind (fun I => (m w).bind fun J => mulI I J) = some I1 by rw [hw]; exact hk] at h
        rw [fold_ev hr m M e l I1 K (fun w' hw' => hm w' (List.mem_cons_of_mem _ hw')) h, mulI_ev hr hk e, hm w List.mem_cons_self J hw]
theorem own_ev (Fs : List Fac) (u : Nat) (e : Nat → Nat) : (⟨[], [(u, u)]⟩ : Itm).ev (rF Fs) e = ownL Fs u (e u) := by
  show rF Fs u u e * 1 = _
  rw [Int.mul_one]
  unfold rF
  rw [if_pos rfl]
theorem msg_ev (Fs : List Fac) (g : Gr) : ∀ (n u t : Nat) (I : Itm), u ≤ 3 → t ≤ 3 → u ≠ t → itMsg g n u t = some I → ∀ e, E3 e → I.ev (rF Fs) e = msg Fs g n u t (e t)
  | 0, u, t, I, _, _, _, h, _, _ => by cases h
  | n + 1, u, t, I, hu, ht, hn, h, e, he => by
    rw [itMsg] at h
    cases h1 : itFold (fun w => itMsg g n w u) u (nbs g u t) with
    | none => rw [h1] at h; cases h
    | some K =>
      rw [h1] at h
      cases h2 : mulI K ⟨[], [prI u t]⟩ with
      | none =>
        rw [show (some K).bind (fun I => (mulI I ⟨[], [prI u t]⟩).map (bindI u)) = none by show (mulI K _).map _ = none; rw [h2]; rfl] at h
        cases h
      | some L =>
        rw [show (some K).bind (fun I => (mulI I ⟨[], [prI u t]⟩).map (bindI u)) = some (bindI u L) by show (mulI K _).map _ = _; rw [h2]; rfl] at h
        obtain rfl := Option.some.inj h
        rw [bindI_ev]
        show _ = sum3 fun x => (nbs g u t).foldl (fun p w => p * msg Fs g n w u x) (ownL Fs u x) * fAt (btw Fs u t) (st2 u x t (e t))
        refine sum3_congr3 fun x hx => ?_
        have he' := he.upd u hx
        have e1 : upd e u x u = x := if_pos rfl
        have e2 : upd e u x t = e t := if_neg fun q => hn q.symm
        rw [mulI_ev (rF_loc Fs) h2, pair_ev Fs hu ht hn he', e1, e2]
        congr 1
        have := fold_ev (rF_loc Fs) (fun w => itMsg g n w u) (fun w => msg Fs g n w u x) (upd e u x) (nbs g u t) ⟨[], [(u, u)]⟩ K (fun w hw J hJ => by
          obtain ⟨q1, q2, _⟩ := nbs_mem hw
          have hwu : w ≠ u := fun q => by
            have := (prs_row g ⟨u, by omega⟩).2.2.2.1
            rw [q] at q2
            rw [this] at q2
            cases q2
          rw [msg_ev Fs g n w u J q1 hu hwu hJ _ he', e1]) h1
        rw [this, own_ev, e1]
theorem all_ev (Fs : List Fac) (g : Gr) {u : Nat} (hu : u ≤ 3) {I : Itm} (h : itAll g u = some I) {e : Nat → Nat} (he : E3 e) : I.ev (rF Fs) e = allT Fs g u 4 (e u) := by
  have := fold_ev (rF_loc Fs) (fun w => itMsg g 3 w u) (fun w => msg Fs g 3 w u (e u)) e (nbs g u 4) ⟨[], [(u, u)]⟩ I (fun w hw J hJ => by
    obtain ⟨q1, q2, _⟩ := nbs_mem hw
    have hwu : w ≠ u := fun q => by
      have := (prs_row g ⟨u, by omega⟩).2.2.2.1
      rw [q] at q2
      rw [this] at q2
      cases q2
    exact msg_ev Fs g 3 w u J q1 hu hwu hJ e he) h
  rw [this, own_ev]
  rfl
/-- The product of the other trees' totals. -/
def restT (Fs : List Fac) (g : Gr) (v : Nat) : Int := ((List.range 4).filter fun u => g.root u == u && g.root v != u).foldl (fun p u => p * totV Fs g u) 1
theorem rest_ev (Fs : List Fac) (g : Gr) {v : Nat} {R : Itm} (h : itRest g v = some R) {e : Nat → Nat} (he : E3 e) : R.ev (rF Fs) e = restT Fs g v := by
  have := fold_ev (rF_loc Fs) (fun u => (itAll g u).map (bindI u)) (fun u => totV Fs g u) e _ ⟨[], []⟩ R (fun u hu J hJ => by
    have hu4 := List.mem_range.1 (List.mem_filter.1 hu).1
    cases ha : itAll g u with
    | none => rw [ha] at hJ; cases hJ
    | some I =>
      rw [ha] at hJ
      obtain rfl := Option.some.inj (show some (bindI u I) = some J from hJ)
      rw [bindI_ev]
      refine sum3_congr3 fun x hx => ?_
      rw [all_ev Fs g (by omega) ha (he.upd u hx), show upd e u x u = x from if_pos rfl]) h
  rw [this]
  rfl
def atoms (g : Gr) : List (Nat × Nat) := [(0, 0), (1, 1), (2, 2), (3, 3)] ++ edges g
theorem others_nodup : ∀ v : Fin 4, (others v.val).Nodup := by decide
/-- A belief times the other trees' totals is the sum over all other variables. -/
theorem bel_whole (Fs : List Fac) {g : Gr} (ha : g.acy = true) (v : Fin 4) {e : Nat → Nat} (he : E3 e) : allT Fs g v.val 4 (e v.val) * restT Fs g v.val = sumB (prodB (rF Fs) (atoms g)) (others v.val) e := by
  have h := whole_ok g ha v
  unfold wholeOk at h
  cases h1 : itAll g v.val with
  | none => rw [h1] at h; cases h
  | some I =>
    cases h2 : itRest g v.val with
    | none => rw [h1, h2] at h; cases h
    | some J =>
      cases h3 : mulI I J with
      | none =>
        rw [h1, h2, show (some I).bind (fun I => (some J).bind fun J => mulI I J) = mulI I J from rfl, h3] at h
        cases h
      | some K =>
        rw [h1, h2, show (some I).bind (fun I => (some J).bind fun J => mulI I J) = mulI I J from rfl, h3] at h
        have h4 : (K.bs.isPerm (others v.val) && K.ats.isPerm (atoms g)) = true := h
        rw [Bool.and_eq_true] at h4
        have p1 := List.isPerm_iff.1 h4.1
        have p2 := List.isPerm_iff.1 h4.2
        rw [← all_ev Fs g (by omega) h1 he, ← rest_ev Fs g h2 he, ← mulI_ev (rF_loc Fs) h3 e]
        show sumB (prodB (rF Fs) K.ats) K.bs e = _
        rw [sumB_perm p1 (p1.nodup_iff.2 (others_nodup v))]
        exact sumB_congr (fun x => prodB_perm (rF Fs) x p2) _ _
theorem sumB_nonneg {f : (Nat → Nat) → Int} (h : ∀ e, 0 ≤ f e) : ∀ (bs : List Nat) (e : Nat → Nat), 0 ≤ sumB f bs e
  | [], e => h e
  | b :: r, e => by
    have h0 := sumB_nonneg h r (upd e b 0)
    have h1 := sumB_nonneg h r (upd e b 1)
    have h2 := sumB_nonneg h r (upd e b 2)
    show 0 ≤ sumB f r (upd e b 0) + sumB f r (upd e b 1) + sumB f r (upd e b 2)
    omega
theorem prodB_nonneg {r : Nat → Nat → (Nat → Nat) → Int} (h : ∀ u t e, 0 ≤ r u t e) (e : Nat → Nat) : ∀ l, 0 ≤ prodB r l e
  | [] => by show (0 : Int) ≤ 1; decide
  | p :: l => Int.mul_nonneg (h p.1 p.2 e) (prodB_nonneg h e l)
theorem rF_nonneg {Fs : List Fac} (hF : ∀ F ∈ Fs, facOk 9 F = true) (u t : Nat) (e : Nat → Nat) : 0 ≤ rF Fs u t e := by
  unfold rF
  split
  · have := (ownL_bd hF u (e u) Fs.length).1
    rwa [List.take_of_length_le (Nat.le_refl _)] at this
  · unfold btw
    cases h : Fs.find? fun F => isP F u t with
    | none => exact Int.le_refl _
    | some F => exact (fAt_bd (hF F (List.mem_of_find?_eq_some h)) (by decide) _).1
theorem all_nonneg {Fs : List Fac} (hF : ∀ F ∈ Fs, facOk 9 F = true) {g : Gr} (ha : g.acy = true) (v : Fin 4) {x : Nat} (hx : x < 3) : 0 ≤ allT Fs g v.val 4 x ∧ 0 ≤ restT Fs g v.val := by
  have h := whole_ok g ha v
  unfold wholeOk at h
  have he : E3 (upd (fun _ => 0) v.val x) := E3.upd (fun _ => by decide) v.val hx
  have hev : ∀ I : Itm, 0 ≤ I.ev (rF Fs) (upd (fun _ => 0) v.val x) := fun I => sumB_nonneg (fun y => prodB_nonneg (rF_nonneg hF) y I.ats) I.bs _
  cases h1 : itAll g v.val with
  | none => rw [h1] at h; cases h
  | some I =>
    cases h2 : itRest g v.val with
    | none => rw [h1, h2] at h; cases h
    | some J =>
      have q1 := hev I
      have q2 := hev J
      rw [all_ev Fs g (by omega) h1 he, show upd (fun _ => 0) v.val x v.val = x from if_pos rfl] at q1
      rw [rest_ev Fs g h2 he] at q2
      exact ⟨q1, q2⟩
end Go.Proofs.Ytghkpmafocacoaa
