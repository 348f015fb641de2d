import Derived.Test.YtcmjpkfinbakkaaGreatDoorRE
import Derived.Test.YtcmjpkfinbakkaaGreatDoorRAF
namespace Go.Proofs.YtcmjpkfinbakkaaGreatDoor.Fl
set_option maxRecDepth 100000
open Go.RowKit

theorem clean_any (x : Nat) (w : World) : Calls Tryz.prog 70 #[.float .f64 x] w fun e w' => e = .returned (.int .u64 (cl x)) ∧ w' = w := by
  have hb := run_bits
  have hn := nan_neq x
  cases h : nanB x
  · rw [h] at hn
    have H : Hid (cl x = x) := by unfold Hid cl; rw [h]; rfl
    clear h
    go_enter Tryz.func70, Tryz.ntmps70
    go_wp2
    go_ret
    exact ⟨by rw [H.out]; rfl, rfl⟩
  · rw [h] at hn
    have H : Hid (cl x = nanW) := by unfold Hid cl; rw [h]; rfl
    clear h
    go_enter Tryz.func70, Tryz.ntmps70
    go_wp2
    go_ret
    exact ⟨by rw [H.out]; rfl, rfl⟩

set_option maxRecDepth 100000 in
set_option maxHeartbeats 400000 in
theorem Ref_add (a b : Nat) (w : World) :
    Calls Tryz.prog 28 #[.string ⟨#[43]⟩, .int .u64 a, .int .u64 b] w fun e w' => e = .returned (.tuple #[.int .u64 (fo (D.add a b)), .bool true]) ∧ ∃ n, w' = w.drewN n := by
  have hf := run_from
  obtain ⟨r, n, hr, h⟩ := arith_run .add a b (D.add a b) w rfl (by simp)
  have H : Hid (cl r = fo (D.add a b)) := cl_of h (fun q hq => (add_ok hq).1)
  clear h
  go_enter Tryz.func28, Tryz.ntmps28
  go_wp2_with (go_at_call 70; refine (clean_any _ _).mono ?_; rintro e w' ⟨rfl, rfl⟩)
  go_ret2
  exact ⟨by rw [← H.out]; rfl, _, rfl⟩

set_option maxRecDepth 100000 in
set_option maxHeartbeats 400000 in
theorem Ref_sub (a b : Nat) (w : World) :
    Calls Tryz.prog 28 #[.string ⟨#[45]⟩, .int .u64 a, .int .u64 b] w fun e w' => e = .returned (.tuple #[.int .u64 (fo (D.sub a b)), .bool true]) ∧ ∃ n, w' = w.drewN n := by
  have hf := run_from
  obtain ⟨r, n, hr, h⟩ := arith_run .sub a b (D.sub a b) w rfl (by simp)
  have H : Hid (cl r = fo (D.sub a b)) := cl_of h (fun q hq => (sub_ok hq).1)
  clear h
  go_enter Tryz.func28, Tryz.ntmps28
  go_wp2_with (go_at_call 70; refine (clean_any _ _).mono ?_; rintro e w' ⟨rfl, rfl⟩)
  go_ret2
  exact ⟨by rw [← H.out]; rfl, _, rfl⟩

set_option maxRecDepth 100000 in
set_option maxHeartbeats 400000 in
theorem Ref_mul (a b : Nat) (w : World) :
    Calls Tryz.prog 28 #[.string ⟨#[42]⟩, .int .u64 a, .int .u64 b] w fun e w' => e = .returned (.tuple #[.int .u64 (fo (D.mul a b)), .bool true]) ∧ ∃ n, w' = w.drewN n := by
  have hf := run_from
  obtain ⟨r, n, hr, h⟩ := arith_run .mul a b (D.mul a b) w rfl (by simp)
  have H : Hid (cl r = fo (D.mul a b)) := cl_of h (fun q hq => (mul_ok hq).1)
  clear h
  go_enter Tryz.func28, Tryz.ntmps28
  go_wp2_with (go_at_call 70; refine (clean_any _ _).mono ?_; rintro e w' ⟨rfl, rfl⟩)
  go_ret2
  exact ⟨by rw [← H.out]; rfl, _, rfl⟩

set_option maxRecDepth 100000 in
set_option maxHeartbeats 400000 in
theorem Ref_div (a b : Nat) (w : World) :
    Calls Tryz.prog 28 #[.string ⟨#[47]⟩, .int .u64 a, .int .u64 b] w fun e w' => e = .returned (.tuple #[.int .u64 (fo (D.div a b)), .bool true]) ∧ ∃ n, w' = w.drewN n := by
  have hf := run_from
  obtain ⟨r, n, hr, h⟩ := arith_run .quo a b (D.div a b) w rfl (by simp)
  have H : Hid (cl r = fo (D.div a b)) := cl_of h (fun q hq => (div_ok hq).1)
  clear h
  go_enter Tryz.func28, Tryz.ntmps28
  go_wp2_with (go_at_call 70; refine (clean_any _ _).mono ?_; rintro e w' ⟨rfl, rfl⟩)
  go_ret2
  exact ⟨by rw [← H.out]; rfl, _, rfl⟩

theorem shr_top {x : Nat} (hx : x < 18446744073709551616) : (x : Int) / 9223372036854775808 = if sg x then 1 else 0 := by
  unfold sg
  by_cases h : x / 9223372036854775808 % 2 = 1
  · rw [if_pos (by simp [h])]; omega
  · rw [if_neg (by simp [h])]; omega

set_option maxRecDepth 100000 in
set_option maxHeartbeats 1000000 in
theorem Ref_min_nan (a b : Nat) (ha : a < 18446744073709551616) (hb : b < 18446744073709551616) (w : World) (h : (nanB a || nanB b) = true) :
    Calls Tryz.prog 28 #[.string ⟨#[109, 105, 110]⟩, .int .u64 a, .int .u64 b] w fun e w' => e = .returned (.tuple #[.int .u64 (fo (fmin a b)), .bool true]) ∧ ∃ n, w' = w.drewN n := by
  have hf := run_from
  have hna := nan_neq a
  have hnb := nan_neq b
  have sa := shr_top ha
  have sb := shr_top hb
  have H : Hid (fo (fmin a b) = 9221120237041090560) := by unfold Hid fmin; rw [order_none h]; rfl
  cases h1 : nanB a
  · have h2 : nanB b = true := by rw [h1] at h; simpa using h
    rw [h1] at hna
    rw [h2] at hnb
    clear h h1 h2 sa sb
    go_enter Tryz.func28, Tryz.ntmps28
    go_wp2
    go_ret2
    exact ⟨by rw [H.out]; rfl, 0, rfl⟩
  · rw [h1] at hna
    clear h h1 hnb sa sb
    go_enter Tryz.func28, Tryz.ntmps28
    go_wp2
    go_ret2
    exact ⟨by rw [H.out]; rfl, 0, rfl⟩

set_option maxRecDepth 100000 in
set_option maxHeartbeats 1000000 in
theorem Ref_min_lt (a b : Nat) (ha : a < 18446744073709551616) (hb : b < 18446744073709551616) (w : World) (h : D.order a b = some .lt) :
    Calls Tryz.prog 28 #[.string ⟨#[109, 105, 110]⟩, .int .u64 a, .int .u64 b] w fun e w' => e = .returned (.tuple #[.int .u64 (fo (fmin a b)), .bool true]) ∧ ∃ n, w' = w.drewN n := by
  have hf := run_from
  have hna := nan_neq a
  have hnb := nan_neq b
  have sa := shr_top ha
  have sb := shr_top hb
  obtain ⟨n1, n2⟩ := order_nan h
  rw [n1] at hna
  rw [n2] at hnb
  have H : Hid (fo (fmin a b) = a) := by unfold Hid fmin; rw [h]; rfl
  have h' : FloatKind.f64.format.order a b = some .lt := h
  clear h n1 n2
  clear sa sb
  go_enter Tryz.func28, Tryz.ntmps28
  go_wp2
  go_ret2
  exact ⟨by rw [H.out]; rfl, 0, rfl⟩

set_option maxRecDepth 100000 in
set_option maxHeartbeats 1000000 in
theorem Ref_min_gt (a b : Nat) (ha : a < 18446744073709551616) (hb : b < 18446744073709551616) (w : World) (h : D.order a b = some .gt) :
    Calls Tryz.prog 28 #[.string ⟨#[109, 105, 110]⟩, .int .u64 a, .int .u64 b] w fun e w' => e = .returned (.tuple #[.int .u64 (fo (fmin a b)), .bool true]) ∧ ∃ n, w' = w.drewN n := by
  have hf := run_from
  have hna := nan_neq a
  have hnb := nan_neq b
  have sa := shr_top ha
  have sb := shr_top hb
  obtain ⟨n1, n2⟩ := order_nan h
  rw [n1] at hna
  rw [n2] at hnb
  have H : Hid (fo (fmin a b) = b) := by unfold Hid fmin; rw [h]; rfl
  have h' : FloatKind.f64.format.order a b = some .gt := h
  clear h n1 n2
  clear sa sb
  go_enter Tryz.func28, Tryz.ntmps28
  go_wp2
  go_ret2
  exact ⟨by rw [H.out]; rfl, 0, rfl⟩

set_option maxRecDepth 100000 in
set_option maxHeartbeats 1000000 in
theorem Ref_min_eq10 (a b : Nat) (ha : a < 18446744073709551616) (hb : b < 18446744073709551616) (w : World) (h : D.order a b = some .eq) (h1 : sg a = true) (h2 : sg b = false) :
    Calls Tryz.prog 28 #[.string ⟨#[109, 105, 110]⟩, .int .u64 a, .int .u64 b] w fun e w' => e = .returned (.tuple #[.int .u64 (fo (fmin a b)), .bool true]) ∧ ∃ n, w' = w.drewN n := by
  have hf := run_from
  have hna := nan_neq a
  have hnb := nan_neq b
  have sa := shr_top ha
  have sb := shr_top hb
  obtain ⟨n1, n2⟩ := order_nan h
  rw [n1] at hna
  rw [n2] at hnb
  have H : Hid (fo (fmin a b) = a) := by unfold Hid fmin; rw [h, h1]; rfl
  rw [h1] at sa
  rw [h2] at sb
  have h' : FloatKind.f64.format.order a b = some .eq := h
  clear h n1 n2
  clear h1
  clear h2
  go_enter Tryz.func28, Tryz.ntmps28
  go_wp2
  go_ret2
  exact ⟨by rw [H.out]; rfl, 0, rfl⟩

set_option maxRecDepth 100000 in
set_option maxHeartbeats 1000000 in
theorem Ref_min_eq01 (a b : Nat) (ha : a < 18446744073709551616) (hb : b < 18446744073709551616) (w : World) (h : D.order a b = some .eq) (h1 : sg a = false) (h2 : sg b = true) :
    Calls Tryz.prog 28 #[.string ⟨#[109, 105, 110]⟩, .int .u64 a, .int .u64 b] w fun e w' => e = .returned (.tuple #[.int .u64 (fo (fmin a b)), .bool true]) ∧ ∃ n, w' = w.drewN n := by
  have hf := run_from
  have hna := nan_neq a
  have hnb := nan_neq b
  have sa := shr_top ha
  have sb := shr_top hb
  obtain ⟨n1, n2⟩ := order_nan h
  rw [n1] at hna
  rw [n2] at hnb
  have H : Hid (fo (fmin a b) = b) := by unfold Hid fmin; rw [h, h1]; rfl
  rw [h1] at sa
  rw [h2] at sb
  have h' : FloatKind.f64.format.order a b = some .eq := h
  clear h n1 n2
  clear h1
  clear h2
  go_enter Tryz.func28, Tryz.ntmps28
  go_wp2
  go_ret2
  exact ⟨by rw [H.out]; rfl, 0, rfl⟩

set_option maxRecDepth 100000 in
set_option maxHeartbeats 1000000 in
theorem Ref_min_eqs (a b : Nat) (ha : a < 18446744073709551616) (hb : b < 18446744073709551616) (w : World) (h : D.order a b = some .eq) (h1 : sg a = sg b) :
    Calls Tryz.prog 28 #[.string ⟨#[109, 105, 110]⟩, .int .u64 a, .int .u64 b] w fun e w' => e = .returned (.tuple #[.int .u64 (fo (fmin a b)), .bool true]) ∧ ∃ n, w' = w.drewN n := by
  have hf := run_from
  have hna := nan_neq a
  have hnb := nan_neq b
  have sa := shr_top ha
  have sb := shr_top hb
  obtain ⟨n1, n2⟩ := order_nan h
  rw [n1] at hna
  rw [n2] at hnb
  have he : a = b := word_inj ha hb h1 (by
    rw [order_some n1 n2] at h
    rcases Int.lt_trichotomy (sv a) (sv b) with h' | h' | h'
    · rw [cmp_lt h'] at h; cases h
    · exact h'
    · rw [cmp_gt h'] at h; cases h)
  subst he
  have H : Hid (fo (fmin a a) = a) := by unfold Hid fmin; rw [h]; cases sg a <;> rfl
  have h' : FloatKind.f64.format.order a a = some .eq := h
  clear h n1 n2
  clear h1
  clear sa sb
  go_enter Tryz.func28, Tryz.ntmps28
  go_wp2
  go_ret2
  exact ⟨by rw [H.out]; rfl, 0, rfl⟩

set_option maxRecDepth 100000 in
set_option maxHeartbeats 1000000 in
theorem Ref_max_nan (a b : Nat) (ha : a < 18446744073709551616) (hb : b < 18446744073709551616) (w : World) (h : (nanB a || nanB b) = true) :
    Calls Tryz.prog 28 #[.string ⟨#[109, 97, 120]⟩, .int .u64 a, .int .u64 b] w fun e w' => e = .returned (.tuple #[.int .u64 (fo (fmax a b)), .bool true]) ∧ ∃ n, w' = w.drewN n := by
  have hf := run_from
  have hna := nan_neq a
  have hnb := nan_neq b
  have sa := shr_top ha
  have sb := shr_top hb
  have H : Hid (fo (fmax a b) = 9221120237041090560) := by unfold Hid fmax; rw [order_none h]; rfl
  cases h1 : nanB a
  · have h2 : nanB b = true := by rw [h1] at h; simpa using h
    rw [h1] at hna
    rw [h2] at hnb
    clear h h1 h2 sa sb
    go_enter Tryz.func28, Tryz.ntmps28
    go_wp2
    go_ret2
    exact ⟨by rw [H.out]; rfl, 0, rfl⟩
  · rw [h1] at hna
    clear h h1 hnb sa sb
    go_enter Tryz.func28, Tryz.ntmps28
    go_wp2
    go_ret2
    exact ⟨by rw [H.out]; rfl, 0, rfl⟩

set_option maxRecDepth 100000 in
set_option maxHeartbeats 1000000 in
theorem Ref_max_lt (a b : Nat) (ha : a < 18446744073709551616) (hb : b < 18446744073709551616) (w : World) (h : D.order a b = some .lt) :
    Calls Tryz.prog 28 #[.string ⟨#[109, 97, 120]⟩, .int .u64 a, .int .u64 b] w fun e w' => e = .returned (.tuple #[.int .u64 (fo (fmax a b)), .bool true]) ∧ ∃ n, w' = w.drewN n := by
  have hf := run_from
  have hna := nan_neq a
  have hnb := nan_neq b
  have sa := shr_top ha
  have sb := shr_top hb
  obtain ⟨n1, n2⟩ := order_nan h
  rw [n1] at hna
  rw [n2] at hnb
  have H : Hid (fo (fmax a b) = b) := by unfold Hid fmax; rw [h]; rfl
  have h' : FloatKind.f64.format.order a b = some .lt := h
  clear h n1 n2
  clear sa sb
  go_enter Tryz.func28, Tryz.ntmps28
  go_wp2
  go_ret2
  exact ⟨by rw [H.out]; rfl, 0, rfl⟩

set_option maxRecDepth 100000 in
set_option maxHeartbeats 1000000 in
theorem Ref_max_gt (a b : Nat) (ha : a < 18446744073709551616) (hb : b < 18446744073709551616) (w : World) (h : D.order a b = some .gt) :
    Calls Tryz.prog 28 #[.string ⟨#[109, 97, 120]⟩, .int .u64 a, .int .u64 b] w fun e w' => e = .returned (.tuple #[.int .u64 (fo (fmax a b)), .bool true]) ∧ ∃ n, w' = w.drewN n := by
  have hf := run_from
  have hna := nan_neq a
  have hnb := nan_neq b
  have sa := shr_top ha
  have sb := shr_top hb
  obtain ⟨n1, n2⟩ := order_nan h
  rw [n1] at hna
  rw [n2] at hnb
  have H : Hid (fo (fmax a b) = a) := by unfold Hid fmax; rw [h]; rfl
  have h' : FloatKind.f64.format.order a b = some .gt := h
  clear h n1 n2
  clear sa sb
  go_enter Tryz.func28, Tryz.ntmps28
  go_wp2
  go_ret2
  exact ⟨by rw [H.out]; rfl, 0, rfl⟩

set_option maxRecDepth 100000 in
set_option maxHeartbeats 1000000 in
theorem Ref_max_eq10 (a b : Nat) (ha : a < 18446744073709551616) (hb : b < 18446744073709551616) (w : World) (h : D.order a b = some .eq) (h1 : sg a = true) (h2 : sg b = false) :
    Calls Tryz.prog 28 #[.string ⟨#[109, 97, 120]⟩, .int .u64 a, .int .u64 b] w fun e w' => e = .returned (.tuple #[.int .u64 (fo (fmax a b)), .bool true]) ∧ ∃ n, w' = w.drewN n := by
  have hf := run_from
  have hna := nan_neq a
  have hnb := nan_neq b
  have sa := shr_top ha
  have sb := shr_top hb
  obtain ⟨n1, n2⟩ := order_nan h
  rw [n1] at hna
  rw [n2] at hnb
  have H : Hid (fo (fmax a b) = b) := by unfold Hid fmax; rw [h, h1]; rfl
  rw [h1] at sa
  rw [h2] at sb
  have h' : FloatKind.f64.format.order a b = some .eq := h
  clear h n1 n2
  clear h1
  clear h2
  go_enter Tryz.func28, Tryz.ntmps28
  go_wp2
  go_ret2
  exact ⟨by rw [H.out]; rfl, 0, rfl⟩

set_option maxRecDepth 100000 in
set_option maxHeartbeats 1000000 in
theorem Ref_max_eq01 (a b : Nat) (ha : a < 18446744073709551616) (hb : b < 18446744073709551616) (w : World) (h : D.order a b = some .eq) (h1 : sg a = false) (h2 : sg b = true) :
    Calls Tryz.prog 28 #[.string ⟨#[109, 97, 120]⟩, .int .u64 a, .int .u64 b] w fun e w' => e = .returned (.tuple #[.int .u64 (fo (fmax a b)), .bool true]) ∧ ∃ n, w' = w.drewN n := by
  have hf := run_from
  have hna := nan_neq a
  have hnb := nan_neq b
  have sa := shr_top ha
  have sb := shr_top hb
  obtain ⟨n1, n2⟩ := order_nan h
  rw [n1] at hna
  rw [n2] at hnb
  have H : Hid (fo (fmax a b) = a) := by unfold Hid fmax; rw [h, h1]; rfl
  rw [h1] at sa
  rw [h2] at sb
  have h' : FloatKind.f64.format.order a b = some .eq := h
  clear h n1 n2
  clear h1
  clear h2
  go_enter Tryz.func28, Tryz.ntmps28
  go_wp2
  go_ret2
  exact ⟨by rw [H.out]; rfl, 0, rfl⟩

set_option maxRecDepth 100000 in
set_option maxHeartbeats 1000000 in
theorem Ref_max_eqs (a b : Nat) (ha : a < 18446744073709551616) (hb : b < 18446744073709551616) (w : World) (h : D.order a b = some .eq) (h1 : sg a = sg b) :
    Calls Tryz.prog 28 #[.string ⟨#[109, 97, 120]⟩, .int .u64 a, .int .u64 b] w fun e w' => e = .returned (.tuple #[.int .u64 (fo (fmax a b)), .bool true]) ∧ ∃ n, w' = w.drewN n := by
  have hf := run_from
  have hna := nan_neq a
  have hnb := nan_neq b
  have sa := shr_top ha
  have sb := shr_top hb
  obtain ⟨n1, n2⟩ := order_nan h
  rw [n1] at hna
  rw [n2] at hnb
  have he : a = b := word_inj ha hb h1 (by
    rw [order_some n1 n2] at h
    rcases Int.lt_trichotomy (sv a) (sv b) with h' | h' | h'
    · rw [cmp_lt h'] at h; cases h
    · exact h'
    · rw [cmp_gt h'] at h; cases h)
  subst he
  have H : Hid (fo (fmax a a) = a) := by unfold Hid fmax; rw [h]; cases sg a <;> rfl
  have h' : FloatKind.f64.format.order a a = some .eq := h
  clear h n1 n2
  clear h1
  clear sa sb
  go_enter Tryz.func28, Tryz.ntmps28
  go_wp2
  go_ret2
  exact ⟨by rw [H.out]; rfl, 0, rfl⟩
end Go.Proofs.YtcmjpkfinbakkaaGreatDoor.Fl

namespace Go.Proofs.YtcmjpkfinbakkaaGreatDoor.Fl
set_option maxRecDepth 100000
open Go.RowKit Ieee
set_option linter.unusedVariables false

theorem hv_no {c : UInt8} (h : ¬ hv c < 16) : c.toNat < 48 ∨ (57 < c.toNat ∧ c.toNat < 97) ∨ 102 < c.toNat := by
  unfold hv at h
  split at h
  · omega
  · split at h
    · omega
    · omega
theorem hv_cases2 {c : UInt8} (h : hv c < 16) : (48 ≤ c.toNat ∧ c.toNat ≤ 57 ∧ c.toNat - 48 = hv c) ∨ (97 ≤ c.toNat ∧ c.toNat ≤ 102 ∧ c.toNat - 87 = hv c) := by
  rcases hv_cases h with ⟨a, b, e⟩ | ⟨a, b, e⟩
  · exact .inl ⟨a, b, e.symm⟩
  · exact .inr ⟨a, b, e.symm⟩
set_option maxRecDepth 100000 in
set_option maxHeartbeats 1000000 in
theorem hex_yes (c : UInt8) (h : hv c < 16) (w : World) : Calls Tryz.prog 69 #[.int .u8 c.toNat] w fun e w' => e = .returned (.int .i64 (hv c)) ∧ w' = w := by
  obtain ⟨d, hd⟩ : ∃ d, hv c = d := ⟨_, rfl⟩
  rw [hd]
  rcases hv_cases2 h with ⟨a, b, e⟩ | ⟨a, b, e⟩
  · rw [hd] at e
    have H : Hid ((c.toNat : Int) - 48 = (d : Int)) := by unfold Hid; omega
    have a' : (48 : Int) ≤ (c.toNat : Int) := by omega
    have b' : (c.toNat : Int) ≤ 57 := by omega
    clear h hd a b e
    go_enter Tryz.func69, Tryz.ntmps69
    go_wp2_with fail
    go_ret
    exact ⟨by rw [H.out]; rfl, rfl⟩
  · rw [hd] at e
    have H : Hid ((c.toNat : Int) - 97 + 10 = (d : Int)) := by unfold Hid; omega
    have a0 : (48 : Int) ≤ (c.toNat : Int) := by omega
    have b0 : (57 : Int) < (c.toNat : Int) := by omega
    have b1 : decide ((c.toNat : Int) ≤ 57) = false := by simp; omega
    have a' : (97 : Int) ≤ (c.toNat : Int) := by omega
    have b' : (c.toNat : Int) ≤ 102 := by omega
    clear h hd a b e
    go_enter Tryz.func69, Tryz.ntmps69
    go_wp2_with fail
    go_ret
    exact ⟨by rw [H.out]; rfl, rfl⟩
set_option maxRecDepth 100000 in
set_option maxHeartbeats 1000000 in
theorem hex_no (c : UInt8) (h : ¬ hv c < 16) (w : World) : Calls Tryz.prog 69 #[.int .u8 c.toNat] w fun e w' => e = .returned (.int .i64 (-1)) ∧ w' = w := by
  rcases hv_no h with a | ⟨a, b⟩ | a
  · have d1 : decide ((48 : Int) ≤ (c.toNat : Int)) = false := by simp; omega
    have d2 : decide ((97 : Int) ≤ (c.toNat : Int)) = false := by simp; omega
    have e1 : (c.toNat : Int) < 48 := by omega
    clear h a
    go_enter Tryz.func69, Tryz.ntmps69
    go_wp2_with fail
    go_ret
    exact ⟨rfl, rfl⟩
  · have d1 : decide ((c.toNat : Int) ≤ 57) = false := by simp; omega
    have d2 : decide ((97 : Int) ≤ (c.toNat : Int)) = false := by simp; omega
    have e1 : (48 : Int) ≤ (c.toNat : Int) := by omega
    have e2 : (c.toNat : Int) < 97 := by omega
    have e3 : (57 : Int) < (c.toNat : Int) := by omega
    clear h a b
    go_enter Tryz.func69, Tryz.ntmps69
    go_wp2_with fail
    go_ret
    exact ⟨rfl, rfl⟩
  · have d1 : decide ((c.toNat : Int) ≤ 57) = false := by simp; omega
    have d2 : decide ((c.toNat : Int) ≤ 102) = false := by simp; omega
    have e1 : (48 : Int) ≤ (c.toNat : Int) := by omega
    have e2 : (97 : Int) ≤ (c.toNat : Int) := by omega
    have e3 : (102 : Int) < (c.toNat : Int) := by omega
    clear h a
    go_enter Tryz.func69, Tryz.ntmps69
    go_wp2_with fail
    go_ret
    exact ⟨rfl, rfl⟩
set_option maxRecDepth 100000 in
set_option maxHeartbeats 1000000 in
theorem Begins_one (s : ByteArray) (c : UInt8) (w : World) :
    Calls Tryz.prog 72 #[.string s, .string ⟨#[c]⟩] w fun e w' => e = .returned (.bool (hp s ⟨#[c]⟩)) ∧ w' = w := by
  by_cases h1 : 1 ≤ s.size
  · have b1 : (1 : Int) ≤ (s.size : Int) := by omega
    have HV : Hid (((s.extract 0 1).toList == [c]) = hp s ⟨#[c]⟩) := by
      rw [Hid, hp, show (⟨#[c]⟩ : ByteArray).size = 1 from rfl, decide_eq_true h1, Bool.true_and, Lib.toList_data ⟨#[c]⟩]
    clear h1
    go_enter Tryz.func72, Tryz.ntmps72
    go_wp2_with fail
    go_ret
    exact ⟨by rw [← HV.out]; rfl, rfl⟩
  · have b1 : ¬ (1 : Int) ≤ (s.size : Int) := by omega
    have HV : Hid (hp s ⟨#[c]⟩ = false) := by
      rw [Hid, hp, show (⟨#[c]⟩ : ByteArray).size = 1 from rfl, decide_eq_false h1, Bool.false_and]
    clear h1
    go_enter Tryz.func72, Tryz.ntmps72
    go_wp2_with fail
    go_ret
    exact ⟨by rw [HV.out]; rfl, rfl⟩
/-- One digit more. -/
theorem shl_or {n d : Nat} (hn : n < 1152921504606846976) (hd : d < 16) : bits .or .u64 (IntKind.u64.wrap ((n : Int) * 16)) (d : Int) = ((n * 16 + d : Nat) : Int) := by
  have e : IntKind.u64.wrap ((n : Int) * 16) = ((n * 16 : Nat) : Int) := by rw [IntKind.wrap_u64]; omega
  rw [e, u64_or_nat _ _ (by omega) (by omega)]
  congr 1
  have := Nat.two_pow_add_eq_or_of_lt (i := 4) (b := d) (by omega) n
  rw [Nat.mul_comm n 16]
  exact this.symm
theorem or_sign {x : Nat} (h : x < 9223372036854775808) : bits .or .u64 (x : Int) 9223372036854775808 = ((9223372036854775808 + x : Nat) : Int) := by
  have := u64_or_nat x 9223372036854775808 (by omega) (by omega)
  rw [show ((9223372036854775808 : Nat) : Int) = 9223372036854775808 from rfl] at this
  rw [this]
  congr 1
  have h2 := Nat.two_pow_add_eq_or_of_lt (i := 63) (b := x) (by omega) 1
  rw [Nat.or_comm]
  simpa using h2.symm
theorem or_none {x : Nat} (h : x < 9223372036854775808) : bits .or .u64 (x : Int) 0 = (x : Int) := by
  have := u64_or_nat x 0 (by omega) (by omega)
  rw [Nat.or_zero] at this
  exact this
end Go.Proofs.YtcmjpkfinbakkaaGreatDoor.Fl
