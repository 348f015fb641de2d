import Derived.Test.YtplhgjngbnkhbaaDoorE
import Derived.Laws.BitsAllLaws
namespace Go.Proofs.YtplhgjngbnkhbaaDoor
open Go.RowKit

theorem exp_mask (x : Nat) : x &&& 9218868437227405312 = 9218868437227405312 ↔ x / 4503599627370496 % 2048 = 2047 := by
  have h1 : (x &&& 9218868437227405312) >>> 52 = x / 4503599627370496 % 2048 := by
    rw [Nat.shiftRight_and_distrib, show (9218868437227405312 >>> 52 : Nat) = 2 ^ 11 - 1 by decide, Nat.and_two_pow_sub_one_eq_mod, Nat.shiftRight_eq_div_pow]
  have h2 : x &&& 9218868437227405312 ≤ 9218868437227405312 := Nat.and_le_right
  rw [Nat.shiftRight_eq_div_pow] at h1
  constructor
  · intro h; rw [h] at h1; rw [← h1]
  · intro h; rw [h] at h1; omega
theorem frac_mask (x : Nat) : x &&& 4503599627370495 = x % 4503599627370496 := Nat.and_two_pow_sub_one_eq_mod x 52
theorem nan_mask {x : Nat} (_hx : x < 18446744073709551616) : nanB x = true ↔ x &&& 9218868437227405312 = 9218868437227405312 ∧ x &&& 4503599627370495 ≠ 0 := by
  rw [exp_mask, frac_mask]
  unfold nanB rg
  rw [decide_eq_true_iff]
  omega

set_option maxRecDepth 100000 in
set_option maxHeartbeats 400000 in
theorem noNumber_any (x : Nat) (hx : x < 18446744073709551616) (w : World) : Calls Tryd.prog 23 #[.int .u64 x] w fun e w' => e = .returned (.bool (nanB x)) ∧ w' = w := by
  have e1 : bits .and .u64 (x : Int) 9218868437227405312 = ((x &&& 9218868437227405312 : Nat) : Int) := u64_and_nat x 9218868437227405312 hx (by omega)
  have e2 : bits .and .u64 (x : Int) 4503599627370495 = ((x &&& 4503599627370495 : Nat) : Int) := u64_and_nat x 4503599627370495 hx (by omega)
  have hn := nan_mask hx
  by_cases h1 : x &&& 9218868437227405312 = 9218868437227405312
  · rw [h1] at e1
    by_cases h2 : x &&& 4503599627370495 = 0
    · rw [h2] at e2
      have H : Hid (nanB x = false) := by unfold Hid; rw [Bool.eq_false_iff]; intro h; exact (hn.1 h).2 h2
      clear hn h1 h2
      go_enter Tryd.func23, Tryd.ntmps23
      go_wp2
      go_ret
      exact ⟨by rw [H.out]; rfl, rfl⟩
    · have H : Hid (nanB x = true) := hn.2 ⟨h1, h2⟩
      have e3 : (bits .and .u64 (x : Int) 4503599627370495 != 0) = true := by rw [e2, bne_iff_ne]; omega
      clear hn h1 h2 e2
      go_enter Tryd.func23, Tryd.ntmps23
      go_wp2
      go_ret
      exact ⟨by rw [H.out]; rfl, rfl⟩
  · have H : Hid (nanB x = false) := by unfold Hid; rw [Bool.eq_false_iff]; intro h; exact h1 (hn.1 h).1
    have e3 : (bits .and .u64 (x : Int) 9218868437227405312 == 9218868437227405312) = false := by rw [e1, beq_eq_false_iff_ne]; omega
    clear hn h1 e1 e2
    go_enter Tryd.func23, Tryd.ntmps23
    go_wp2
    go_ret
    exact ⟨by rw [H.out]; rfl, rfl⟩

def isLt (x y : Nat) : Bool := D.order x y == some .lt
def isEq (x y : Nat) : Bool := D.order x y == some .eq
def isGt (x y : Nat) : Bool := D.order x y == some .gt
theorem order_cases {x y : Nat} (h : (nanB x || nanB y) = false) : D.order x y = some .lt ∨ D.order x y = some .eq ∨ D.order x y = some .gt := by
  rw [Bool.or_eq_false_iff] at h
  rw [order_some h.1 h.2]
  cases compare (sv x) (sv y) <;> simp

set_option maxRecDepth 100000 in
set_option maxHeartbeats 4000000 in
theorem order_nans (x y : Nat) (hx : x < 18446744073709551616) (hy : y < 18446744073709551616) (w : World) (hn : (nanB x || nanB y) = true) : Calls Tryd.prog 9 #[.int .u64 x, .int .u64 y] w fun e w' => e = .returned (.bool true) ∧ Below w.heap.size w w' := by
  have HO := Lib.hid (order_none hn)
  cases hnx : nanB x
  · have hny : nanB y = true := by rw [hnx] at hn; simpa using hn
    have HNX := Lib.hid hnx
    have HNY := Lib.hid hny
    clear hn hnx hny
    go_enter Tryd.func9, Tryd.ntmps9
    go_wp2_with fail
    refine (alive_any _).mono ?_
    rintro e w1 ⟨rfl, hB1⟩
    have HB := Lib.hid hB1
    clear hB1
    go_wp2_with (first
      | (go_at_call 23; (first | ((with_reducible refine (noNumber_any x hx _).mono ?_); rw [HNX.out]) | ((with_reducible refine (noNumber_any y hy _).mono ?_); rw [HNY.out])); rintro e w' ⟨rfl, rfl⟩)
      | (go_at_call 20; (first | (with_reducible refine (Is_lt x y _).mono ?_) | (with_reducible refine (Is_le x y _).mono ?_) | (with_reducible refine (Is_gt x y _).mono ?_) | (with_reducible refine (Is_ge x y _).mono ?_) | (with_reducible refine (Is_eq x y _).mono ?_) | (with_reducible refine (Is_ne x y _).mono ?_)); rw [HO.out]; rintro e w' ⟨rfl, rfl⟩))
    go_ret
    exact ⟨rfl, HB.out⟩
  · cases hny : nanB y
    all_goals
      have HNX := Lib.hid hnx
      have HNY := Lib.hid hny
      clear hn hnx hny
      go_enter Tryd.func9, Tryd.ntmps9
      go_wp2_with fail
      refine (alive_any _).mono ?_
      rintro e w1 ⟨rfl, hB1⟩
      have HB := Lib.hid hB1
      clear hB1
      go_wp2_with (first
        | (go_at_call 23; (first | ((with_reducible refine (noNumber_any x hx _).mono ?_); rw [HNX.out]) | ((with_reducible refine (noNumber_any y hy _).mono ?_); rw [HNY.out])); rintro e w' ⟨rfl, rfl⟩)
        | (go_at_call 20; (first | (with_reducible refine (Is_lt x y _).mono ?_) | (with_reducible refine (Is_le x y _).mono ?_) | (with_reducible refine (Is_gt x y _).mono ?_) | (with_reducible refine (Is_ge x y _).mono ?_) | (with_reducible refine (Is_eq x y _).mono ?_) | (with_reducible refine (Is_ne x y _).mono ?_)); rw [HO.out]; rintro e w' ⟨rfl, rfl⟩))
      go_ret
      exact ⟨rfl, HB.out⟩

set_option maxRecDepth 100000 in
set_option maxHeartbeats 4000000 in
theorem order_lt (x y : Nat) (hx : x < 18446744073709551616) (hy : y < 18446744073709551616) (w : World) (ho : D.order x y = some .lt) : Calls Tryd.prog 9 #[.int .u64 x, .int .u64 y] w fun e w' => e = .returned (.bool true) ∧ Below w.heap.size w w' := by
  have HO := Lib.hid ho
  have HNX := Lib.hid (order_nan ho).1
  have HNY := Lib.hid (order_nan ho).2
  have HA : Hid (fo (fmin x y) = x) := by unfold Hid fmin; rw [ho]; rfl
  have HBB : Hid (fo (fmax x y) = y) := by unfold Hid fmax; rw [ho]; rfl
  clear ho
  by_cases hxy : x = y
  · subst hxy
    go_enter Tryd.func9, Tryd.ntmps9
    go_wp2_with fail
    refine (alive_any _).mono ?_
    rintro e w1 ⟨rfl, hB1⟩
    have HB := Lib.hid hB1
    clear hB1
    go_wp2_with (first
      | (go_at_call 23; (first | ((with_reducible refine (noNumber_any x hx _).mono ?_); rw [HNX.out]) | ((with_reducible refine (noNumber_any x hy _).mono ?_); rw [HNY.out])); rintro e w' ⟨rfl, rfl⟩)
      | (go_at_call 20; (first | (with_reducible refine (Is_lt x x _).mono ?_) | (with_reducible refine (Is_le x x _).mono ?_) | (with_reducible refine (Is_gt x x _).mono ?_) | (with_reducible refine (Is_ge x x _).mono ?_) | (with_reducible refine (Is_eq x x _).mono ?_) | (with_reducible refine (Is_ne x x _).mono ?_)); rw [HO.out]; rintro e w' ⟨rfl, rfl⟩)
      | (go_at_call 18; (first | ((with_reducible refine (Op_min x x _).mono ?_); rw [HA.out]) | ((with_reducible refine (Op_max x x _).mono ?_); rw [HBB.out])); rintro e w' ⟨rfl, nq, rfl⟩))
    go_ret
    exact ⟨rfl, below_trans HB.out (below_drew ⟨_, rfl⟩)⟩
  · have h1 : ((x : Int) == (y : Int)) = false := by rw [beq_eq_false_iff_ne]; omega
    have h2 : ((y : Int) == (x : Int)) = false := by rw [beq_eq_false_iff_ne]; omega
    clear hxy
    go_enter Tryd.func9, Tryd.ntmps9
    go_wp2_with fail
    refine (alive_any _).mono ?_
    rintro e w1 ⟨rfl, hB1⟩
    have HB := Lib.hid hB1
    clear hB1
    go_wp2_with (first
      | (go_at_call 23; (first | ((with_reducible refine (noNumber_any x hx _).mono ?_); rw [HNX.out]) | ((with_reducible refine (noNumber_any y hy _).mono ?_); rw [HNY.out])); rintro e w' ⟨rfl, rfl⟩)
      | (go_at_call 20; (first | (with_reducible refine (Is_lt x y _).mono ?_) | (with_reducible refine (Is_le x y _).mono ?_) | (with_reducible refine (Is_gt x y _).mono ?_) | (with_reducible refine (Is_ge x y _).mono ?_) | (with_reducible refine (Is_eq x y _).mono ?_) | (with_reducible refine (Is_ne x y _).mono ?_)); rw [HO.out]; rintro e w' ⟨rfl, rfl⟩)
      | (go_at_call 18; (first | ((with_reducible refine (Op_min x y _).mono ?_); rw [HA.out]) | ((with_reducible refine (Op_max x y _).mono ?_); rw [HBB.out])); rintro e w' ⟨rfl, nq, rfl⟩))
    go_ret
    exact ⟨rfl, below_trans HB.out (below_drew ⟨_, rfl⟩)⟩

set_option maxRecDepth 100000 in
set_option maxHeartbeats 4000000 in
theorem order_gt (x y : Nat) (hx : x < 18446744073709551616) (hy : y < 18446744073709551616) (w : World) (ho : D.order x y = some .gt) : Calls Tryd.prog 9 #[.int .u64 x, .int .u64 y] w fun e w' => e = .returned (.bool true) ∧ Below w.heap.size w w' := by
  have HO := Lib.hid ho
  have HNX := Lib.hid (order_nan ho).1
  have HNY := Lib.hid (order_nan ho).2
  have HA : Hid (fo (fmin x y) = y) := by unfold Hid fmin; rw [ho]; rfl
  have HBB : Hid (fo (fmax x y) = x) := by unfold Hid fmax; rw [ho]; rfl
  clear ho
  by_cases hxy : x = y
  · subst hxy
    go_enter Tryd.func9, Tryd.ntmps9
    go_wp2_with fail
    refine (alive_any _).mono ?_
    rintro e w1 ⟨rfl, hB1⟩
    have HB := Lib.hid hB1
    clear hB1
    go_wp2_with (first
      | (go_at_call 23; (first | ((with_reducible refine (noNumber_any x hx _).mono ?_); rw [HNX.out]) | ((with_reducible refine (noNumber_any x hy _).mono ?_); rw [HNY.out])); rintro e w' ⟨rfl, rfl⟩)
      | (go_at_call 20; (first | (with_reducible refine (Is_lt x x _).mono ?_) | (with_reducible refine (Is_le x x _).mono ?_) | (with_reducible refine (Is_gt x x _).mono ?_) | (with_reducible refine (Is_ge x x _).mono ?_) | (with_reducible refine (Is_eq x x _).mono ?_) | (with_reducible refine (Is_ne x x _).mono ?_)); rw [HO.out]; rintro e w' ⟨rfl, rfl⟩)
      | (go_at_call 18; (first | ((with_reducible refine (Op_min x x _).mono ?_); rw [HA.out]) | ((with_reducible refine (Op_max x x _).mono ?_); rw [HBB.out])); rintro e w' ⟨rfl, nq, rfl⟩))
    go_ret
    exact ⟨rfl, below_trans HB.out (below_drew ⟨_, rfl⟩)⟩
  · have h1 : ((x : Int) == (y : Int)) = false := by rw [beq_eq_false_iff_ne]; omega
    have h2 : ((y : Int) == (x : Int)) = false := by rw [beq_eq_false_iff_ne]; omega
    clear hxy
    go_enter Tryd.func9, Tryd.ntmps9
    go_wp2_with fail
    refine (alive_any _).mono ?_
    rintro e w1 ⟨rfl, hB1⟩
    have HB := Lib.hid hB1
    clear hB1
    go_wp2_with (first
      | (go_at_call 23; (first | ((with_reducible refine (noNumber_any x hx _).mono ?_); rw [HNX.out]) | ((with_reducible refine (noNumber_any y hy _).mono ?_); rw [HNY.out])); rintro e w' ⟨rfl, rfl⟩)
      | (go_at_call 20; (first | (with_reducible refine (Is_lt x y _).mono ?_) | (with_reducible refine (Is_le x y _).mono ?_) | (with_reducible refine (Is_gt x y _).mono ?_) | (with_reducible refine (Is_ge x y _).mono ?_) | (with_reducible refine (Is_eq x y _).mono ?_) | (with_reducible refine (Is_ne x y _).mono ?_)); rw [HO.out]; rintro e w' ⟨rfl, rfl⟩)
      | (go_at_call 18; (first | ((with_reducible refine (Op_min x y _).mono ?_); rw [HA.out]) | ((with_reducible refine (Op_max x y _).mono ?_); rw [HBB.out])); rintro e w' ⟨rfl, nq, rfl⟩))
    go_ret
    exact ⟨rfl, below_trans HB.out (below_drew ⟨_, rfl⟩)⟩

set_option maxRecDepth 100000 in
set_option maxHeartbeats 4000000 in
theorem order_eqs (x y : Nat) (hx : x < 18446744073709551616) (hy : y < 18446744073709551616) (w : World) (ho : D.order x y = some .eq) (hs : sg x = true) : Calls Tryd.prog 9 #[.int .u64 x, .int .u64 y] w fun e w' => e = .returned (.bool true) ∧ Below w.heap.size w w' := by
  have HO := Lib.hid ho
  have HNX := Lib.hid (order_nan ho).1
  have HNY := Lib.hid (order_nan ho).2
  have HA : Hid (fo (fmin x y) = x) := by unfold Hid fmin; rw [ho]; simp only [hs]; rfl
  have HBB : Hid (fo (fmax x y) = y) := by unfold Hid fmax; rw [ho]; simp only [hs]; rfl
  clear ho
  by_cases hxy : x = y
  · subst hxy
    go_enter Tryd.func9, Tryd.ntmps9
    go_wp2_with fail
    refine (alive_any _).mono ?_
    rintro e w1 ⟨rfl, hB1⟩
    have HB := Lib.hid hB1
    clear hB1
    go_wp2_with (first
      | (go_at_call 23; (first | ((with_reducible refine (noNumber_any x hx _).mono ?_); rw [HNX.out]) | ((with_reducible refine (noNumber_any x hy _).mono ?_); rw [HNY.out])); rintro e w' ⟨rfl, rfl⟩)
      | (go_at_call 20; (first | (with_reducible refine (Is_lt x x _).mono ?_) | (with_reducible refine (Is_le x x _).mono ?_) | (with_reducible refine (Is_gt x x _).mono ?_) | (with_reducible refine (Is_ge x x _).mono ?_) | (with_reducible refine (Is_eq x x _).mono ?_) | (with_reducible refine (Is_ne x x _).mono ?_)); rw [HO.out]; rintro e w' ⟨rfl, rfl⟩)
      | (go_at_call 18; (first | ((with_reducible refine (Op_min x x _).mono ?_); rw [HA.out]) | ((with_reducible refine (Op_max x x _).mono ?_); rw [HBB.out])); rintro e w' ⟨rfl, nq, rfl⟩))
    go_ret
    exact ⟨rfl, below_trans HB.out (below_drew ⟨_, rfl⟩)⟩
  · have h1 : ((x : Int) == (y : Int)) = false := by rw [beq_eq_false_iff_ne]; omega
    have h2 : ((y : Int) == (x : Int)) = false := by rw [beq_eq_false_iff_ne]; omega
    clear hxy
    go_enter Tryd.func9, Tryd.ntmps9
    go_wp2_with fail
    refine (alive_any _).mono ?_
    rintro e w1 ⟨rfl, hB1⟩
    have HB := Lib.hid hB1
    clear hB1
    go_wp2_with (first
      | (go_at_call 23; (first | ((with_reducible refine (noNumber_any x hx _).mono ?_); rw [HNX.out]) | ((with_reducible refine (noNumber_any y hy _).mono ?_); rw [HNY.out])); rintro e w' ⟨rfl, rfl⟩)
      | (go_at_call 20; (first | (with_reducible refine (Is_lt x y _).mono ?_) | (with_reducible refine (Is_le x y _).mono ?_) | (with_reducible refine (Is_gt x y _).mono ?_) | (with_reducible refine (Is_ge x y _).mono ?_) | (with_reducible refine (Is_eq x y _).mono ?_) | (with_reducible refine (Is_ne x y _).mono ?_)); rw [HO.out]; rintro e w' ⟨rfl, rfl⟩)
      | (go_at_call 18; (first | ((with_reducible refine (Op_min x y _).mono ?_); rw [HA.out]) | ((with_reducible refine (Op_max x y _).mono ?_); rw [HBB.out])); rintro e w' ⟨rfl, nq, rfl⟩))
    go_ret
    exact ⟨rfl, below_trans HB.out (below_drew ⟨_, rfl⟩)⟩

set_option maxRecDepth 100000 in
set_option maxHeartbeats 4000000 in
theorem order_eqn (x y : Nat) (hx : x < 18446744073709551616) (hy : y < 18446744073709551616) (w : World) (ho : D.order x y = some .eq) (hs : sg x = false) : Calls Tryd.prog 9 #[.int .u64 x, .int .u64 y] w fun e w' => e = .returned (.bool true) ∧ Below w.heap.size w w' := by
  have HO := Lib.hid ho
  have HNX := Lib.hid (order_nan ho).1
  have HNY := Lib.hid (order_nan ho).2
  have HA : Hid (fo (fmin x y) = y) := by unfold Hid fmin; rw [ho]; simp only [hs]; rfl
  have HBB : Hid (fo (fmax x y) = x) := by unfold Hid fmax; rw [ho]; simp only [hs]; rfl
  clear ho
  by_cases hxy : x = y
  · subst hxy
    go_enter Tryd.func9, Tryd.ntmps9
    go_wp2_with fail
    refine (alive_any _).mono ?_
    rintro e w1 ⟨rfl, hB1⟩
    have HB := Lib.hid hB1
    clear hB1
    go_wp2_with (first
      | (go_at_call 23; (first | ((with_reducible refine (noNumber_any x hx _).mono ?_); rw [HNX.out]) | ((with_reducible refine (noNumber_any x hy _).mono ?_); rw [HNY.out])); rintro e w' ⟨rfl, rfl⟩)
      | (go_at_call 20; (first | (with_reducible refine (Is_lt x x _).mono ?_) | (with_reducible refine (Is_le x x _).mono ?_) | (with_reducible refine (Is_gt x x _).mono ?_) | (with_reducible refine (Is_ge x x _).mono ?_) | (with_reducible refine (Is_eq x x _).mono ?_) | (with_reducible refine (Is_ne x x _).mono ?_)); rw [HO.out]; rintro e w' ⟨rfl, rfl⟩)
      | (go_at_call 18; (first | ((with_reducible refine (Op_min x x _).mono ?_); rw [HA.out]) | ((with_reducible refine (Op_max x x _).mono ?_); rw [HBB.out])); rintro e w' ⟨rfl, nq, rfl⟩))
    go_ret
    exact ⟨rfl, below_trans HB.out (below_drew ⟨_, rfl⟩)⟩
  · have h1 : ((x : Int) == (y : Int)) = false := by rw [beq_eq_false_iff_ne]; omega
    have h2 : ((y : Int) == (x : Int)) = false := by rw [beq_eq_false_iff_ne]; omega
    clear hxy
    go_enter Tryd.func9, Tryd.ntmps9
    go_wp2_with fail
    refine (alive_any _).mono ?_
    rintro e w1 ⟨rfl, hB1⟩
    have HB := Lib.hid hB1
    clear hB1
    go_wp2_with (first
      | (go_at_call 23; (first | ((with_reducible refine (noNumber_any x hx _).mono ?_); rw [HNX.out]) | ((with_reducible refine (noNumber_any y hy _).mono ?_); rw [HNY.out])); rintro e w' ⟨rfl, rfl⟩)
      | (go_at_call 20; (first | (with_reducible refine (Is_lt x y _).mono ?_) | (with_reducible refine (Is_le x y _).mono ?_) | (with_reducible refine (Is_gt x y _).mono ?_) | (with_reducible refine (Is_ge x y _).mono ?_) | (with_reducible refine (Is_eq x y _).mono ?_) | (with_reducible refine (Is_ne x y _).mono ?_)); rw [HO.out]; rintro e w' ⟨rfl, rfl⟩)
      | (go_at_call 18; (first | ((with_reducible refine (Op_min x y _).mono ?_); rw [HA.out]) | ((with_reducible refine (Op_max x y _).mono ?_); rw [HBB.out])); rintro e w' ⟨rfl, nq, rfl⟩))
    go_ret
    exact ⟨rfl, below_trans HB.out (below_drew ⟨_, rfl⟩)⟩

theorem order_walk (x y : Int) (wx : (Lit.int .u64 x).wf = true) (wy : (Lit.int .u64 y).wf = true) (w : World) : Calls Tryd.prog 9 #[.int .u64 x, .int .u64 y] w fun e w' => e = .returned (.bool true) ∧ Below w.heap.size w w' := by
  have bx : 0 ≤ x ∧ x ≤ 18446744073709551615 := by simpa [Lit.wf, IntKind.min, IntKind.max, IntKind.signed, IntKind.bits] using wx
  have by' : 0 ≤ y ∧ y ≤ 18446744073709551615 := by simpa [Lit.wf, IntKind.min, IntKind.max, IntKind.signed, IntKind.bits] using wy
  obtain ⟨a, rfl⟩ := Int.eq_ofNat_of_zero_le bx.1
  obtain ⟨b, rfl⟩ := Int.eq_ofNat_of_zero_le by'.1
  have ha : a < 18446744073709551616 := by omega
  have hb : b < 18446744073709551616 := by omega
  by_cases hn : (nanB a || nanB b) = true
  · exact order_nans a b ha hb w hn
  · rcases order_cases (by simpa using hn) with h | h | h
    · exact order_lt a b ha hb w h
    · cases hs : sg a
      · exact order_eqn a b ha hb w h hs
      · exact order_eqs a b ha hb w h hs
    · exact order_gt a b ha hb w h
end Go.Proofs.YtplhgjngbnkhbaaDoor
