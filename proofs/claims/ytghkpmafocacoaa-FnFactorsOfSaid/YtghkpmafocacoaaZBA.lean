/- Parts of the proof: Fq. -/
import Derived.Test.YtghkpmafocacoaaZAS
import Derived.Test.YtghkpmafocacoaaZAU
import Derived.Test.YtghkpmafocacoaaZAM
import Derived.Test.YtghkpmafocacoaaZAW
import Derived.Test.YtghkpmafocacoaaZAZ
namespace Go.Proofs.Ytghkpmafocacoaa
set_option maxRecDepth 100000
set_option linter.unusedVariables false
open Go.RowKit
theorem val_with : ∀ (s : Fin 81) (v u : Fin 4) (x : Fin 3), valueAt (withValue (s.val : Int) (v.val : Int) (x.val : Int)) (u.val : Int) = if u = v then (x.val : Int) else valueAt (s.val : Int) (u.val : Int) := by decide +kernel
theorem val_set {s : Int} (hs : 0 ≤ s ∧ s ≤ 80) (v u : Fin 4) {x : Int} (hx : 0 ≤ x ∧ x ≤ 2) : valueAt (withValue s (v.val : Int) x) (u.val : Int) = if u = v then x else valueAt s (u.val : Int) := by
  obtain ⟨q, rfl⟩ := fin_of (L := 0) hs
  have h := val_with q v u ⟨x.toNat, by omega⟩
  have e : ((⟨x.toNat, by omega⟩ : Fin 3).val : Int) = x := by show (x.toNat : Int) = x; omega
  rwa [e] at h
/-- Whether a variable is drawn there. -/
def setsV (ps : List St) (v : Nat) : Bool := ps.any fun s => s.draws && decide (s.a = (v : Int))
/-- Whether a state is another one but for what is drawn. -/
def outEq (ps : List St) (x t : Int) : Bool := (List.range 4).all fun v => setsV ps v || decide (valueAt x (v : Int) = valueAt t (v : Int))
theorem outEq_iff {ps : List St} {x t : Int} : outEq ps x t = true ↔ ∀ v : Fin 4, setsV ps v.val = false → valueAt x (v.val : Int) = valueAt t (v.val : Int) := by
  unfold outEq
  rw [List.all_eq_true]
  constructor
  · intro h v hv
    have := h v.val (List.mem_range.2 v.isLt)
    rw [hv] at this
    simpa using this
  · intro h v hv
    have := h ⟨v, List.mem_range.1 hv⟩
    cases hs : setsV ps v
    · simpa using this hs
    · rfl
abbrev Knd (s : St) : Prop := s.ok = true ∧ (s.k = 2 ∨ s.k = 3 ∨ s.k = 4 ∨ s.k = 5)
theorem knd_vars {s : St} (h : Knd s) : ∃ A : Fin 4, s.a = (A.val : Int) ∧ tb (named s) A.val = true ∧ (s.k = 3 ∨ s.k = 5 → ∃ B : Fin 4, s.b = (B.val : Int) ∧ B ≠ A ∧ tb (named s) B.val = true) ∧ (∀ v : Fin 4, tb (named s) v.val = true → v = A ∨ ((s.k = 3 ∨ s.k = 5) ∧ s.b = (v.val : Int))) := by
  obtain ⟨hok, hk⟩ := h
  have h8 := ok_rng (k := s.k) (a := s.a) (b := s.b) (c := s.c) (u := s.u) (v := s.v) (x := s.x) hok
  obtain ⟨A, hA, _⟩ := nat_three (v := s.a) (by omega)
  have hA0 := A.isLt
  by_cases h2 : s.k = 3 ∨ s.k = 5
  · obtain ⟨hn, _, h1, h3, _⟩ := facStmt_two hok h2
    obtain ⟨B, hB, _⟩ := nat_three (v := s.b) h3
    have hB0 := B.isLt
    have hne : B ≠ A := by
      rintro rfl
      omega
    have ht : ∀ v : Fin 4, tb (named s) v.val = (decide (s.a = (v.val : Int)) || decide (s.b = (v.val : Int))) := fun v => by
      rw [hn, tb_bor, tb_bit h1.1 h1.2 (by omega), tb_bit h3.1 h3.2 (by omega)]
    refine ⟨A, hA, by rw [ht, hA]; simp, fun _ => ⟨B, hB, hne, by rw [ht, hB]; simp⟩, fun v hv => ?_⟩
    rw [ht, Bool.or_eq_true] at hv
    rcases hv with hv | hv
    · have := of_decide_eq_true hv
      exact .inl (Fin.ext (by omega))
    · exact .inr ⟨h2, of_decide_eq_true hv⟩
  · have hn : named s = bitN s.a := by
      unfold named St.reads St.sets
      rw [hok]
      obtain h4 | h4 : s.k = 2 ∨ s.k = 4 := by omega
      · simp [h4]
        unfold bor
        rw [show (0 : Int).toNat = 0 from rfl, Nat.zero_or]
        have := bitN_le s.a
        omega
      · simp [h4]
        rw [show bitN (-1) = 0 from rfl, bor_zero (bitN_le s.a).1]
    have ht : ∀ v : Fin 4, tb (named s) v.val = decide (s.a = (v.val : Int)) := fun v => by
      rw [hn, tb_bit (by omega) (by omega) (by omega)]
    refine ⟨A, hA, by rw [ht, hA]; simp, fun h => absurd h h2, fun v hv => ?_⟩
    rw [ht] at hv
    have := of_decide_eq_true hv
    exact .inl (Fin.ext (by omega))
theorem fac_same {s : St} {x t : Int} (h1 : valueAt x s.a = valueAt t s.a) (h2 : s.k = 3 ∨ s.k = 5 → valueAt x s.b = valueAt t s.b) : s.fac x = s.fac t := by
  unfold St.fac
  rw [h1]
  split
  · rfl
  · split
    · rename_i h
      rw [h2 h]
    · rfl
theorem sets_draw' {s : St} (h : s.ok = true) (hk : s.k = 2 ∨ s.k = 3 ∨ s.k = 4 ∨ s.k = 5) : (s.draws = true → s.sets = s.a ∧ 0 ≤ s.a ∧ s.a ≤ 3) ∧ (s.draws = false → bitN s.sets = 0) := by
  have h8 := ok_rng (k := s.k) (a := s.a) (b := s.b) (c := s.c) (u := s.u) (v := s.v) (x := s.x) h
  unfold St.draws St.sets
  refine ⟨fun hd => ?_, fun hd => ?_⟩
  · simp at hd
    rw [if_pos ⟨h, by omega⟩]
    omega
  · simp at hd
    rw [if_neg (by intro e; omega)]
    rfl
theorem list_parts' {Fs : List Fac} (h : listOk Fs = true) : ∀ F ∈ Fs, facOk 9 F = true := by
  unfold listOk at h
  rw [Bool.and_eq_true, List.all_eq_true] at h
  exact h.2
theorem sing_no : ∀ {ps : List St} {L : Int}, singF ps L = true → (∀ s ∈ ps, Knd s) → ∀ v : Fin 4, tb L v.val = true → setsV ps v.val = false
  | [], _, _, _, _, _ => rfl
  | s :: r, L, h, hk, v, ht => by
    have h1 : (oneOk s L && singF r (bor L (named s))) = true := h
    rw [Bool.and_eq_true] at h1
    have hr := sing_no h1.2 (fun x hx => hk x (List.mem_cons_of_mem _ hx)) v (by rw [tb_bor, ht]; rfl)
    have e : setsV (s :: r) v.val = ((s.draws && decide (s.a = (v.val : Int))) || setsV r v.val) := rfl
    rw [e, hr, Bool.or_false]
    have h2 := h1.1
    unfold oneOk at h2
    rw [Bool.and_eq_true] at h2
    obtain ⟨q1, q2⟩ := sets_draw' (hk s List.mem_cons_self).1 (hk s List.mem_cons_self).2
    cases hd : s.draws
    · rfl
    · rw [Bool.true_and]
      apply decide_eq_false
      intro ha
      obtain ⟨e1, e2, e3⟩ := q1 hd
      have h3 := h2.2
      rw [e1, ha, Int.toNat_natCast, ht, Bool.and_true, decide_eq_true (by omega)] at h3
      cases h3
theorem val_sing : ∀ {ps : List St} {L : Int}, singF ps L = true → (∀ s ∈ ps, Knd s) → ∀ {x t : Int}, 0 ≤ x ∧ x ≤ 80 → 0 ≤ t ∧ t ≤ 80 → val (ind t) ps 0 x = if outEq ps x t = true then (ps.map fun s => s.fac t).foldr (· * ·) 1 else 0
  | [], _, _, _, x, t, hx, ht => by
    show ind t x = _
    unfold ind
    by_cases h : x = t
    · rw [if_pos h, if_pos (outEq_iff.2 fun v _ => by rw [h])]
      rfl
    · rw [if_neg h, if_neg fun q => h (agree_all hx ht fun v hv _ => outEq_iff.1 q ⟨v, by omega⟩ rfl)]
  | s :: r, L, h, hk, x, t, hx, ht => by
    have h1 : (oneOk s L && singF r (bor L (named s))) = true := h
    rw [Bool.and_eq_true] at h1
    have hks := hk s List.mem_cons_self
    have hkr := fun y hy => hk y (List.mem_cons_of_mem s hy)
    have ih := fun {y : Int} (hy : 0 ≤ y ∧ y ≤ 80) => val_sing h1.2 hkr hy ht
    obtain ⟨A, hA, tA, hB, _⟩ := knd_vars hks
    have nA := sing_no h1.2 hkr A (by rw [tb_bor, tA, Bool.or_true])
    have nB : s.k = 3 ∨ s.k = 5 → ∃ B : Fin 4, s.b = (B.val : Int) ∧ B ≠ A ∧ setsV r B.val = false := fun q => by
      obtain ⟨B, e, ne, tB⟩ := hB q
      exact ⟨B, e, ne, sing_no h1.2 hkr B (by rw [tb_bor, tB, Bool.or_true])⟩
    have eS : ∀ v : Nat, setsV (s :: r) v = ((s.draws && decide (s.a = (v : Int))) || setsV r v) := fun _ => rfl
    have eP : ((s :: r).map fun s => s.fac t).foldr (· * ·) 1 = s.fac t * (r.map fun s => s.fac t).foldr (· * ·) 1 := rfl
    rw [eP]
    have hsame : ∀ {y : Int}, outEq r y t = true → s.fac y = s.fac t := fun {y} q => by
      refine fac_same (by rw [hA]; exact outEq_iff.1 q A nA) fun h3 => ?_
      obtain ⟨B, e, _, nb⟩ := nB h3
      rw [e]
      exact outEq_iff.1 q B nb
    by_cases hd : s.draws = true
    · have hn : ∀ d : Int, s.next x d = withValue x (A.val : Int) d := fun d => by
        have hk23 : s.k = 2 ∨ s.k = 3 := by unfold St.draws at hd; simpa using hd
        unfold St.next
        rw [if_neg (by omega), if_neg (by omega), if_pos hk23, hA]
      rw [val, if_pos hd]
      have hterm : ∀ d : Int, 0 ≤ d ∧ d ≤ 2 → s.fac (s.next x d) * val (ind t) r 0 (s.next x d) = if d = valueAt t (A.val : Int) then (if outEq (s :: r) x t = true then s.fac t * (r.map fun s => s.fac t).foldr (· * ·) 1 else 0) else 0 := fun d hd2 => by
        rw [ih (next_bd hks.1 hx hd2)]
        have key : outEq r (s.next x d) t = true ↔ d = valueAt t (A.val : Int) ∧ outEq (s :: r) x t = true := by
          rw [outEq_iff, outEq_iff, hn]
          constructor
          · intro q
            have q1 := q A nA
            rw [val_set hx A A hd2, if_pos rfl] at q1
            refine ⟨q1, fun v hv => ?_⟩
            rw [eS, hd, Bool.true_and, Bool.or_eq_false_iff] at hv
            have hne : v ≠ A := by
              rintro rfl
              exact of_decide_eq_false hv.1 hA
            have q2 := q v hv.2
            rwa [val_set hx A v hd2, if_neg hne] at q2
          · rintro ⟨q1, q⟩ v hv
            rw [val_set hx A v hd2]
            by_cases hne : v = A
            · rw [if_pos hne, hne]
              exact q1
            · rw [if_neg hne]
              refine q v ?_
              rw [eS, hv, Bool.or_false, hd, Bool.true_and]
              apply decide_eq_false
              rw [hA]
              intro e
              exact hne (Fin.ext (by omega))
        by_cases hq : outEq r (s.next x d) t = true
        · obtain ⟨k1, k2⟩ := key.1 hq
          rw [if_pos hq, hsame hq, if_pos k1, if_pos k2]
        · rw [if_neg hq, Int.mul_zero]
          split
          · rename_i k1
            rw [if_neg fun k2 => hq (key.2 ⟨k1, k2⟩)]
          · rfl
      rw [hterm 0 (by omega), hterm 1 (by omega), hterm 2 (by omega)]
      have hv := value_bd ht (v := (A.val : Int)) (by omega)
      generalize valueAt t (A.val : Int) = z at hv
      generalize (if outEq (s :: r) x t = true then s.fac t * (r.map fun s => s.fac t).foldr (· * ·) 1 else 0) = G
      obtain rfl | rfl | rfl : z = 0 ∨ z = 1 ∨ z = 2 := by omega
      all_goals simp
    · have hd' : s.draws = false := by cases q : s.draws; rfl; exact absurd q hd
      have hk45 : ¬ (s.k = 2 ∨ s.k = 3) := by
        intro q
        apply hd
        unfold St.draws
        rcases q with q | q <;> rw [q] <;> rfl
      have hk := hks.2
      have hn : s.next x 0 = x := by
        unfold St.next
        rw [if_neg (by omega), if_neg (by omega), if_neg hk45]
      have hj : s.jump x = 0 := by
        unfold St.jump
        rw [if_neg (by omega)]
      rw [val, if_neg hd, hn, hj, ih hx]
      have eO : outEq (s :: r) x t = outEq r x t := by
        unfold outEq
        congr 1
        funext v
        rw [eS, hd', Bool.false_and, Bool.false_or]
      rw [eO]
      by_cases hq : outEq r x t = true
      · rw [if_pos hq, if_pos hq, hsame hq]
      · rw [if_neg hq, if_neg hq, Int.mul_zero]
theorem prod_foldr (t : Int) : ∀ Fs : List Fac, prodAt Fs t = (Fs.map fun F => fAt F t).foldr (· * ·) 1
  | [] => rfl
  | F :: r => by rw [prodAt_cons, prod_foldr t r]; rfl
theorem prodAt_app (t : Int) (B : List Fac) : ∀ As : List Fac, prodAt (As ++ B) t = prodAt As t * prodAt B t
  | [] => by rw [List.nil_append, show prodAt [] t = 1 from rfl, Int.one_mul]
  | F :: r => by rw [List.cons_append, prodAt_cons, prodAt_cons, prodAt_app t B r, Int.mul_assoc]
theorem stmt_at {s : St} (h : Knd s) {t : Int} (ht : 0 ≤ t ∧ t ≤ 80) : fAt (facStmt s) t = s.fac t := by
  obtain ⟨N, hN⟩ := fin16 (named_bd s)
  obtain ⟨A, hA, tA, hB, _⟩ := knd_vars h
  unfold facStmt
  rw [hN] at tA hB ⊢
  refine facBy_at N (fun a b ha hb hv => fac_same (by rw [hA]; exact hv A tA) fun q => ?_) ht
  obtain ⟨B, e, _, tB⟩ := hB q
  rw [e]
  exact hv B tB
theorem stmt_ok {s : St} (h : Knd s) : facOk 9 (facStmt s) = true := by
  obtain ⟨N, hN⟩ := fin16 (named_bd s)
  unfold facStmt
  rw [hN]
  exact facBy_ok N fun st _ => fac_bd h.1 st
theorem drawn_tb : ∀ (ps : List St), (∀ s ∈ ps, Knd s) → ∀ (D : Int) (v : Fin 4), tb (ps.foldl (fun D s => bor D (bitN s.sets)) D) v.val = (tb D v.val || setsV ps v.val)
  | [], _, D, v => by show tb D v.val = _; rw [show setsV [] v.val = false from rfl, Bool.or_false]
  | s :: r, h, D, v => by
    rw [List.foldl_cons, drawn_tb r (fun x hx => h x (List.mem_cons_of_mem _ hx)), tb_bor]
    have hs := h s List.mem_cons_self
    obtain ⟨q1, q2⟩ := sets_draw' hs.1 hs.2
    have e : setsV (s :: r) v.val = ((s.draws && decide (s.a = (v.val : Int))) || setsV r v.val) := rfl
    rw [e, Bool.or_assoc]
    congr 2
    cases hd : s.draws
    · rw [q2 hd]
      unfold tb
      simp
    · obtain ⟨e1, e2, e3⟩ := q1 hd
      rw [e1, tb_bit e2 e3 (by omega), Bool.true_and]
theorem rest_prod : ∀ (D : Fin 16) (t : Fin 81), prodAt (restF (D.val : Int) 4) (t.val : Int) = if (List.range 4).all (fun v => tb (D.val : Int) v || decide (valueAt 0 (v : Int) = valueAt (t.val : Int) (v : Int))) = true then 1 else 0 := by decide +kernel
theorem rest_ok : ∀ D : Fin 16, listOk (restF (D.val : Int) 4) = true := by decide +kernel
/-- The product of all factors of a single program is what it weighs. -/
theorem facs_prod {ps : List St} (h : single ps = true) {t : Int} (ht : 0 ≤ t ∧ t ≤ 80) : prodAt (facsOf ps) t = val (ind t) ps 0 0 := by
  have hk := (single_parts h).2
  have hsing : singF ps 0 = true := by
    unfold single at h
    rw [Bool.and_eq_true, Bool.and_eq_true] at h
    exact h.2.2
  have hb : 0 ≤ drawnOf ps ∧ drawnOf ps ≤ 15 := by
    have := drawn_bd ps ps.length
    rwa [List.take_of_length_le (Nat.le_refl _)] at this
  obtain ⟨D, hD⟩ := fin16 hb
  obtain ⟨q, rfl⟩ := fin_of (L := 0) ht
  have hO : outEq ps 0 (q.val : Int) = (List.range 4).all (fun v => tb (D.val : Int) v || decide (valueAt 0 (v : Int) = valueAt (q.val : Int) (v : Int))) := by
    unfold outEq
    rw [List.all_eq, List.all_eq]
    congr 1
    apply propext
    refine forall_congr' fun v => forall_congr' fun hv => ?_
    have h4 := List.mem_range.1 hv
    have := drawn_tb ps hk 0 ⟨v, h4⟩
    rw [show tb 0 v = false by unfold tb; simp, Bool.false_or] at this
    have e : tb (D.val : Int) v = setsV ps v := by rw [← hD]; exact this
    rw [e]
  rw [val_sing hsing hk (by omega) ht, hO]
  unfold facsOf
  rw [if_pos h, prodAt_app, hD, rest_prod D q, prod_foldr]
  have e : ((ps.map facStmt).map fun F => fAt F (q.val : Int)) = ps.map fun s => s.fac (q.val : Int) := by
    rw [List.map_map]
    exact List.map_congr_left fun s hs => stmt_at (hk s hs) ht
  rw [e]
  split
  · rw [Int.mul_one]
  · rw [Int.mul_zero]
theorem facs_ok {ps : List St} (h : single ps = true) : listOk (facsOf ps) = true := by
  have hk := (single_parts h).2
  have hl := (single_parts h).1
  have hb : 0 ≤ drawnOf ps ∧ drawnOf ps ≤ 15 := by
    have := drawn_bd ps ps.length
    rwa [List.take_of_length_le (Nat.le_refl _)] at this
  obtain ⟨D, hD⟩ := fin16 hb
  have h1 := list_parts' (rest_ok D)
  have h2 := restF_len (drawnOf ps) 4
  unfold listOk facsOf
  rw [if_pos h, Bool.and_eq_true, List.all_eq_true]
  refine ⟨decide_eq_true (by rw [List.length_append, List.length_map]; omega), fun F hF => ?_⟩
  rcases List.mem_append.1 hF with hF | hF
  · obtain ⟨s, hs, rfl⟩ := List.mem_map.1 hF
    exact stmt_ok (hk s hs)
  · rw [hD] at hF
    exact h1 F hF
/-- What the list of a single program's factors is. -/
theorem facs_list {ps : List St} (h : single ps = true) : lofTo (facsOf ps) = weightsFrom ps 0 := by
  have hp : plainOk ps = true := by
    unfold single at h
    rw [Bool.and_eq_true] at h
    exact h.1
  unfold lofTo weightsFrom
  rw [if_pos (facs_ok h), plain_self hp]
  show _ = if inB 0 0 80 = true then wts ps 0 else []
  rw [if_pos (by decide)]
  unfold wts
  refine List.map_congr_left fun i hi => ?_
  have h81 := List.mem_range.1 hi
  rw [facs_prod h (by omega)]
  rfl
end Go.Proofs.Ytghkpmafocacoaa
