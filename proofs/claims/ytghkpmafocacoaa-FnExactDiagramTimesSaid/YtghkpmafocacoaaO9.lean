/- Diagrams: the program's slotOf. -/
import Derived.Test.YtghkpmafocacoaaO8
import Derived.Test.YtghkpmafocacoaaO7
namespace Go.Proofs.Ytghkpmafocacoaa
set_option maxRecDepth 100000
set_option linter.unusedVariables false
open Go.RowKit

/-- One kid more in a cell's mixed number. -/
def mixK (m k : Int) : Int := IntKind.u64.wrap (IntKind.u64.wrap (m * 121) + IntKind.u64.wrap k)
def mix0 (s : Ce) : Int := IntKind.u64.wrap (IntKind.u64.wrap (IntKind.u64.wrap s.n * 5) + IntKind.u64.wrap s.lev)
def mixC (s : Ce) : Int := mixK (mixK (mixK (mix0 s) s.a) s.b) s.c
def slotC (s : Ce) : Nat := (mixC s).toNat % 251
theorem mixC_bd (s : Ce) : 0 ≤ mixC s ∧ mixC s ≤ 18446744073709551615 := by
  unfold mixC mixK
  generalize IntKind.u64.wrap ((IntKind.u64.wrap (IntKind.u64.wrap (IntKind.u64.wrap (mix0 s * 121) + IntKind.u64.wrap s.a) * 121) + IntKind.u64.wrap s.b) * 121) + IntKind.u64.wrap s.c = x
  simp only [IntKind.wrap_u64]
  omega
theorem slotC_eq (s : Ce) : ((slotC s : Nat) : Int) = mixC s % 251 := by
  have := mixC_bd s
  unfold slotC
  omega
set_option maxHeartbeats 1000000 in
theorem slotOf_any (s : Ce) (w : World) :
    Calls Try.prog 184 #[.agg #[.int .i64 s.v, .int .i64 s.n, .int .i64 s.a, .int .i64 s.b, .int .i64 s.c]] w fun e w' => e = .returned (.int .i64 (slotC s : Nat)) ∧ Below w.heap.size w w' := by
  have hB := Lib.hid (show Below w.heap.size w (w.alloc (.cells #[.int .i64 s.v, .int .i64 s.n, .int .i64 s.a, .int .i64 s.b, .int .i64 s.c] 47)) from (Below.refl _ _).alloc (Nat.le_refl _) _)
  have hW := Lib.hid (Has.new w 47 #[.int .i64 s.v, .int .i64 s.n, .int .i64 s.a, .int .i64 s.b, .int .i64 s.c])
  have cL := Lib.hid (fun wx => levelOf_any s wx)
  have h0 := Lib.hid (show mix0 s = IntKind.u64.wrap (IntKind.u64.wrap (IntKind.u64.wrap s.n * 5) + IntKind.u64.wrap s.lev) from rfl)
  have hz := hB.out.size
  go_enter Try.func184, Try.ntmps184
  go_wp2_with fail
  generalize w.alloc (.cells #[.int .i64 s.v, .int .i64 s.n, .int .i64 s.a, .int .i64 s.b, .int .i64 s.c] 47) = W0 at hB hW hz ⊢
  generalize hGw : w.heap.size = G at hB hW hz ⊢
  have hOk := Lib.hid (fun (wx : World) (hx : Below W0.heap.size W0 wx) => (show Below W0.heap.size W0 wx ∧ wx.cell? ⟨G, 0, none⟩ = some (.int .i64 s.v) ∧ wx.cell? ⟨G, 1, none⟩ = some (.int .i64 s.n) ∧ wx.cell? ⟨G, 2, none⟩ = some (.int .i64 s.a) ∧ wx.cell? ⟨G, 3, none⟩ = some (.int .i64 s.b) ∧ wx.cell? ⟨G, 4, none⟩ = some (.int .i64 s.c) from ⟨hx, (hW.out.kept hx).cell 0, (hW.out.kept hx).cell 1, (hW.out.kept hx).cell 2, (hW.out.kept hx).cell 3, (hW.out.kept hx).cell 4⟩))
  obtain ⟨_, e0, e1, e2, e3, e4⟩ := hOk.out W0 (Below.refl _ _)
  go_region_held3 (fun wx => Below W0.heap.size W0 wx ∧ wx.cell? ⟨G, 0, none⟩ = some (.int .i64 s.v) ∧ wx.cell? ⟨G, 1, none⟩ = some (.int .i64 s.n) ∧ wx.cell? ⟨G, 2, none⟩ = some (.int .i64 s.a) ∧ wx.cell? ⟨G, 3, none⟩ = some (.int .i64 s.b) ∧ wx.cell? ⟨G, 4, none⟩ = some (.int .i64 s.c)) (first | exact hOk.out _ ((Below.refl _ _).drew) | exact hOk.out _ (bt6 (by assumption) hbq) | exact hOk.out _ (bs6 (by assumption)) | exact hOk.out _ (bd6 (by assumption)) | go_keep) (first | (go_at_call 81; refine (cL.out _).mono ?_; rintro e q ⟨rfl, hbq⟩))
  rename_i hHeld
  obtain ⟨hB1, e0', e1', e2', e3', e4'⟩ := hHeld
  have hB6 := Lib.hid (hB.out.trans (hB1.mono hz))
  clear hB1 hbq hOk cL e0 e1 e2 e3 e4
  go_wp2_with fail
  have i0 : ∀ w, (Instr.index 45 (.agg #[.int .i64 s.a, .int .i64 s.b, .int .i64 s.c]) (.int .i64 0)).run Try.prog w = .ok (.int .i64 s.a) w := fun _ => by kernel_rfl
  have i1 : ∀ w, (Instr.index 45 (.agg #[.int .i64 s.a, .int .i64 s.b, .int .i64 s.c]) (.int .i64 1)).run Try.prog w = .ok (.int .i64 s.b) w := fun _ => by kernel_rfl
  have i2 : ∀ w, (Instr.index 45 (.agg #[.int .i64 s.a, .int .i64 s.b, .int .i64 s.c]) (.int .i64 2)).run Try.prog w = .ok (.int .i64 s.c) w := fun _ => by kernel_rfl
  have hm := Lib.hid (fun (m k : Int) => (show mixK m k = IntKind.u64.wrap (IntKind.u64.wrap (m * 121) + IntKind.u64.wrap k) from rfl))
  go_loop [3, 16] (fun m i => (i = .int .i64 0 ∧ m = .int .u64 (mix0 s)) ∨ (i = .int .i64 1 ∧ m = .int .u64 (mixK (mix0 s) s.a)) ∨ (i = .int .i64 2 ∧ m = .int .u64 (mixK (mixK (mix0 s) s.a) s.b)) ∨ (i = .int .i64 3 ∧ m = .int .u64 (mixC s))) (fun _ i => 3 - (intOf i).toNat)
  case atStart => exact .inl ⟨rfl, by rw [h0.out]⟩
  case round =>
    rcases hrel with ⟨rfl, rfl⟩ | ⟨rfl, rfl⟩ | ⟨rfl, rfl⟩ | ⟨rfl, rfl⟩
    · generalize mix0 s = m at *
      go_wp2_with fail
      go_round
      case rel => exact .inr (.inl ⟨rfl, by rw [hm.out]⟩)
      case measure => simp [intOf]
    · generalize mixK (mix0 s) s.a = m at *
      go_wp2_with fail
      go_round
      case rel => exact .inr (.inr (.inl ⟨rfl, by rw [hm.out]⟩))
      case measure => simp [intOf]
    · have hC := Lib.hid (show mixC s = mixK (mixK (mixK (mix0 s) s.a) s.b) s.c from rfl)
      generalize mixK (mixK (mix0 s) s.a) s.b = m at *
      go_wp2_with fail
      go_round
      case rel => exact .inr (.inr (.inr ⟨rfl, by rw [hC.out, hm.out]⟩))
      case measure => simp [intOf]
    · have hb := mixC_bd s
      have hS := Lib.hid (slotC_eq s)
      generalize mixC s = m at *
      go_wp2_with fail
      go_ret
      exact ⟨ret_int hS.out, hB6.out⟩
end Go.Proofs.Ytghkpmafocacoaa
