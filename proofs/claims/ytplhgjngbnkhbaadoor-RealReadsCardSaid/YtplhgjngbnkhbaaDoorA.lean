import Derived.Test.YtplhgjngbnkhbaaDoorRows
import Derived.Test.YtplhgjngbnkhbaaDoorF
import Derived.WalkKit
import Derived.WalkSpells
import Derived.WalkLawsBesides
import Derived.Laws.FloatArith
import Derived.Laws.Externs
import Derived.Lib.Hide
namespace Go.Proofs.YtplhgjngbnkhbaaDoor
open Go.RowKit

theorem run_from (n : Int) (w : World) : (callFunc 33 #[.int .u64 n]).run Tryd.prog w = .ok (.value (.float .f64 n.toNat)) w := by
  rw [run_callFunc_extern Tryd.func33 (by kernel_rfl) (by kernel_rfl) (by kernel_rfl) (e := Extern.MathFloatBits.float64frombits) (by kernel_rfl)]; rfl
theorem run_bits (n : Nat) (w : World) : (callFunc 34 #[.float .f64 n]).run Tryd.prog w = .ok (.value (.int .u64 n)) w := by
  rw [run_callFunc_extern Tryd.func34 (by kernel_rfl) (by kernel_rfl) (by kernel_rfl) (e := Extern.MathFloatBits.float64bits) (by kernel_rfl)]; rfl

theorem nan_neq (x : Nat) : (FloatKind.f64.format.order x x != some .eq) = nanB x := by
  show (D.order x x != some .eq) = nanB x
  cases h : nanB x
  · rw [order_some h h, cmp_eq]; rfl
  · rw [order_none (by simp [h])]; rfl

theorem isNaN_any (x : Nat) (w : World) : Calls Tryd.prog 35 #[.float .f64 x] w fun e w' => e = .returned (.bool (nanB x)) ∧ w' = w := by
  go_enter Tryd.func35, Tryd.ntmps35
  go_wp2
  go_ret
  exact ⟨by rw [← nan_neq]; rfl, rfl⟩

def nanW : Nat := 9221120237041090560
def cl (x : Nat) : Nat := if nanB x then nanW else x
theorem bits_any (x : Nat) (w : World) : Calls Tryd.prog 28 #[.float .f64 x] w fun e w' => e = .returned (.int .u64 (cl x)) ∧ w' = w := by
  have hb := run_bits
  cases h : nanB x
  · have H : Hid (cl x = x) := by unfold Hid cl; rw [h]; rfl
    go_enter Tryd.func28, Tryd.ntmps28
    go_wp2_with (go_at_call 35; refine (isNaN_any _ _).mono ?_; rintro e w' ⟨rfl, rfl⟩; rw [h]; clear h)
    go_ret
    exact ⟨by rw [H.out]; rfl, rfl⟩
  · have H : Hid (cl x = nanW) := by unfold Hid cl; rw [h]; rfl
    go_enter Tryd.func28, Tryd.ntmps28
    go_wp2_with (go_at_call 35; refine (isNaN_any _ _).mono ?_; rintro e w' ⟨rfl, rfl⟩; rw [h]; clear h)
    go_ret
    exact ⟨by rw [H.out]; rfl, rfl⟩

/-- A NaN that the tape picks is one. -/
theorem nanB_pick (s t : Nat) : nanB ((t % 2) * 2 ^ 63 + 0x7ff0000000000000 + 1 + (t / 2) % (2 ^ 52 - 1)) = true := by
  have h1 : (t / 2) % (2 ^ 52 - 1) < 2 ^ 52 - 1 := Nat.mod_lt _ (by omega)
  generalize (t / 2) % (2 ^ 52 - 1) = q at *
  have e : t % 2 * 2 ^ 63 + 0x7ff0000000000000 + 1 + q = (0x7ff0000000000001 + q) + 9223372036854775808 * (t % 2) := by omega
  unfold nanB rg
  rw [e, Nat.add_mul_mod_self_left, Nat.mod_eq_of_lt (by omega)]
  simp only [decide_eq_true_eq]
  omega
theorem arith_run (op : BinOp) (x y : Nat) (o : Option Nat) (w : World) (h : floatBits op .f64 x y = o) (hop : op = .add ∨ op = .sub ∨ op = .mul ∨ op = .quo) :
    ∃ (r n : Nat), (binOp op 42 (.float .f64 x) (.float .f64 y)).run Tryd.prog w = .ok (.float .f64 r) (w.drewN n) ∧ ((o = some r) ∨ (o = none ∧ nanB r = true)) := by
  subst h
  cases e : floatBits op .f64 x y with
  | some r => exact ⟨r, 0, by rw [World.drewN_zero]; exact run_float_arith w op 42 .f64 x y r e, .inl rfl⟩
  | none =>
    refine ⟨Question.cut (.nanBits .f64 x y) (w.tape w.drawn (.nanBits .f64 x y)), 1, ?_, .inr ⟨rfl, nanB_pick 0 _⟩⟩
    rw [← World.drew_is_drewN]
    unfold floatBits at e
    rcases hop with rfl | rfl | rfl | rfl
    all_goals
      simp only at e
      simp [binOp, Op.floatArith, e, Question.forced]
end Go.Proofs.YtplhgjngbnkhbaaDoor
