import Derived.Test.YtplhgjngbnkhbaaDoorI
namespace Go.Proofs.YtplhgjngbnkhbaaDoor
open Go.RowKit

theorem clean_any (x : Nat) (w : World) : Calls Tryd.prog 32 #[.float .f64 x] w fun e w' => e = .returned (.int .u64 (cl x)) ∧ w' = w := by
  have hb := run_bits
  have hn := nan_neq x
  cases h : nanB x
  · rw [h] at hn
    have H : Hid (cl x = x) := by unfold Hid cl; rw [h]; rfl
    clear h
    go_enter Tryd.func32, Tryd.ntmps32
    go_wp2
    go_ret
    exact ⟨by rw [H.out]; rfl, rfl⟩
  · rw [h] at hn
    have H : Hid (cl x = nanW) := by unfold Hid cl; rw [h]; rfl
    clear h
    go_enter Tryd.func32, Tryd.ntmps32
    go_wp2
    go_ret
    exact ⟨by rw [H.out]; rfl, rfl⟩

set_option maxRecDepth 100000 in
set_option maxHeartbeats 400000 in
theorem Ref_add (a b : Nat) (w : World) :
    Calls Tryd.prog 19 #[.string ⟨#[43]⟩, .int .u64 a, .int .u64 b] w fun e w' => e = .returned (.tuple #[.int .u64 (fo (D.add a b)), .bool true]) ∧ ∃ n, w' = w.drewN n := by
  have hf := run_from
  obtain ⟨r, n, hr, h⟩ := arith_run .add a b (D.add a b) w rfl (by simp)
  have H : Hid (cl r = fo (D.add a b)) := cl_of h (fun q hq => (add_ok hq).1)
  clear h
  go_enter Tryd.func19, Tryd.ntmps19
  go_wp2_with (go_at_call 32; refine (clean_any _ _).mono ?_; rintro e w' ⟨rfl, rfl⟩)
  go_ret2
  exact ⟨by rw [← H.out]; rfl, _, rfl⟩

set_option maxRecDepth 100000 in
set_option maxHeartbeats 400000 in
theorem Ref_sub (a b : Nat) (w : World) :
    Calls Tryd.prog 19 #[.string ⟨#[45]⟩, .int .u64 a, .int .u64 b] w fun e w' => e = .returned (.tuple #[.int .u64 (fo (D.sub a b)), .bool true]) ∧ ∃ n, w' = w.drewN n := by
  have hf := run_from
  obtain ⟨r, n, hr, h⟩ := arith_run .sub a b (D.sub a b) w rfl (by simp)
  have H : Hid (cl r = fo (D.sub a b)) := cl_of h (fun q hq => (sub_ok hq).1)
  clear h
  go_enter Tryd.func19, Tryd.ntmps19
  go_wp2_with (go_at_call 32; refine (clean_any _ _).mono ?_; rintro e w' ⟨rfl, rfl⟩)
  go_ret2
  exact ⟨by rw [← H.out]; rfl, _, rfl⟩

set_option maxRecDepth 100000 in
set_option maxHeartbeats 400000 in
theorem Ref_mul (a b : Nat) (w : World) :
    Calls Tryd.prog 19 #[.string ⟨#[42]⟩, .int .u64 a, .int .u64 b] w fun e w' => e = .returned (.tuple #[.int .u64 (fo (D.mul a b)), .bool true]) ∧ ∃ n, w' = w.drewN n := by
  have hf := run_from
  obtain ⟨r, n, hr, h⟩ := arith_run .mul a b (D.mul a b) w rfl (by simp)
  have H : Hid (cl r = fo (D.mul a b)) := cl_of h (fun q hq => (mul_ok hq).1)
  clear h
  go_enter Tryd.func19, Tryd.ntmps19
  go_wp2_with (go_at_call 32; refine (clean_any _ _).mono ?_; rintro e w' ⟨rfl, rfl⟩)
  go_ret2
  exact ⟨by rw [← H.out]; rfl, _, rfl⟩

set_option maxRecDepth 100000 in
set_option maxHeartbeats 400000 in
theorem Ref_div (a b : Nat) (w : World) :
    Calls Tryd.prog 19 #[.string ⟨#[47]⟩, .int .u64 a, .int .u64 b] w fun e w' => e = .returned (.tuple #[.int .u64 (fo (D.div a b)), .bool true]) ∧ ∃ n, w' = w.drewN n := by
  have hf := run_from
  obtain ⟨r, n, hr, h⟩ := arith_run .quo a b (D.div a b) w rfl (by simp)
  have H : Hid (cl r = fo (D.div a b)) := cl_of h (fun q hq => (div_ok hq).1)
  clear h
  go_enter Tryd.func19, Tryd.ntmps19
  go_wp2_with (go_at_call 32; refine (clean_any _ _).mono ?_; rintro e w' ⟨rfl, rfl⟩)
  go_ret2
  exact ⟨by rw [← H.out]; rfl, _, rfl⟩

theorem shr_top {x : Nat} (hx : x < 18446744073709551616) : (x : Int) / 9223372036854775808 = if sg x then 1 else 0 := by
  unfold sg
  by_cases h : x / 9223372036854775808 % 2 = 1
  · rw [if_pos (by simp [h])]; omega
  · rw [if_neg (by simp [h])]; omega

set_option maxRecDepth 100000 in
set_option maxHeartbeats 1000000 in
theorem Ref_min_nan (a b : Nat) (ha : a < 18446744073709551616) (hb : b < 18446744073709551616) (w : World) (h : (nanB a || nanB b) = true) :
    Calls Tryd.prog 19 #[.string ⟨#[109, 105, 110]⟩, .int .u64 a, .int .u64 b] w fun e w' => e = .returned (.tuple #[.int .u64 (fo (fmin a b)), .bool true]) ∧ ∃ n, w' = w.drewN n := by
  have hf := run_from
  have hna := nan_neq a
  have hnb := nan_neq b
  have sa := shr_top ha
  have sb := shr_top hb
  have H : Hid (fo (fmin a b) = 9221120237041090560) := by unfold Hid fmin; rw [order_none h]; rfl
  cases h1 : nanB a
  · have h2 : nanB b = true := by rw [h1] at h; simpa using h
    rw [h1] at hna
    rw [h2] at hnb
    clear h h1 h2 sa sb
    go_enter Tryd.func19, Tryd.ntmps19
    go_wp2
    go_ret2
    exact ⟨by rw [H.out]; rfl, 0, rfl⟩
  · rw [h1] at hna
    clear h h1 hnb sa sb
    go_enter Tryd.func19, Tryd.ntmps19
    go_wp2
    go_ret2
    exact ⟨by rw [H.out]; rfl, 0, rfl⟩

set_option maxRecDepth 100000 in
set_option maxHeartbeats 1000000 in
theorem Ref_min_lt (a b : Nat) (ha : a < 18446744073709551616) (hb : b < 18446744073709551616) (w : World) (h : D.order a b = some .lt) :
    Calls Tryd.prog 19 #[.string ⟨#[109, 105, 110]⟩, .int .u64 a, .int .u64 b] w fun e w' => e = .returned (.tuple #[.int .u64 (fo (fmin a b)), .bool true]) ∧ ∃ n, w' = w.drewN n := by
  have hf := run_from
  have hna := nan_neq a
  have hnb := nan_neq b
  have sa := shr_top ha
  have sb := shr_top hb
  obtain ⟨n1, n2⟩ := order_nan h
  rw [n1] at hna
  rw [n2] at hnb
  have H : Hid (fo (fmin a b) = a) := by unfold Hid fmin; rw [h]; rfl
  have h' : FloatKind.f64.format.order a b = some .lt := h
  clear h n1 n2
  clear sa sb
  go_enter Tryd.func19, Tryd.ntmps19
  go_wp2
  go_ret2
  exact ⟨by rw [H.out]; rfl, 0, rfl⟩

set_option maxRecDepth 100000 in
set_option maxHeartbeats 1000000 in
theorem Ref_min_gt (a b : Nat) (ha : a < 18446744073709551616) (hb : b < 18446744073709551616) (w : World) (h : D.order a b = some .gt) :
    Calls Tryd.prog 19 #[.string ⟨#[109, 105, 110]⟩, .int .u64 a, .int .u64 b] w fun e w' => e = .returned (.tuple #[.int .u64 (fo (fmin a b)), .bool true]) ∧ ∃ n, w' = w.drewN n := by
  have hf := run_from
  have hna := nan_neq a
  have hnb := nan_neq b
  have sa := shr_top ha
  have sb := shr_top hb
  obtain ⟨n1, n2⟩ := order_nan h
  rw [n1] at hna
  rw [n2] at hnb
  have H : Hid (fo (fmin a b) = b) := by unfold Hid fmin; rw [h]; rfl
  have h' : FloatKind.f64.format.order a b = some .gt := h
  clear h n1 n2
  clear sa sb
  go_enter Tryd.func19, Tryd.ntmps19
  go_wp2
  go_ret2
  exact ⟨by rw [H.out]; rfl, 0, rfl⟩

set_option maxRecDepth 100000 in
set_option maxHeartbeats 1000000 in
theorem Ref_min_eq10 (a b : Nat) (ha : a < 18446744073709551616) (hb : b < 18446744073709551616) (w : World) (h : D.order a b = some .eq) (h1 : sg a = true) (h2 : sg b = false) :
    Calls Tryd.prog 19 #[.string ⟨#[109, 105, 110]⟩, .int .u64 a, .int .u64 b] w fun e w' => e = .returned (.tuple #[.int .u64 (fo (fmin a b)), .bool true]) ∧ ∃ n, w' = w.drewN n := by
  have hf := run_from
  have hna := nan_neq a
  have hnb := nan_neq b
  have sa := shr_top ha
  have sb := shr_top hb
  obtain ⟨n1, n2⟩ := order_nan h
  rw [n1] at hna
  rw [n2] at hnb
  have H : Hid (fo (fmin a b) = a) := by unfold Hid fmin; rw [h, h1]; rfl
  rw [h1] at sa
  rw [h2] at sb
  have h' : FloatKind.f64.format.order a b = some .eq := h
  clear h n1 n2
  clear h1
  clear h2
  go_enter Tryd.func19, Tryd.ntmps19
  go_wp2
  go_ret2
  exact ⟨by rw [H.out]; rfl, 0, rfl⟩

set_option maxRecDepth 100000 in
set_option maxHeartbeats 1000000 in
theorem Ref_min_eq01 (a b : Nat) (ha : a < 18446744073709551616) (hb : b < 18446744073709551616) (w : World) (h : D.order a b = some .eq) (h1 : sg a = false) (h2 : sg b = true) :
    Calls Tryd.prog 19 #[.string ⟨#[109, 105, 110]⟩, .int .u64 a, .int .u64 b] w fun e w' => e = .returned (.tuple #[.int .u64 (fo (fmin a b)), .bool true]) ∧ ∃ n, w' = w.drewN n := by
  have hf := run_from
  have hna := nan_neq a
  have hnb := nan_neq b
  have sa := shr_top ha
  have sb := shr_top hb
  obtain ⟨n1, n2⟩ := order_nan h
  rw [n1] at hna
  rw [n2] at hnb
  have H : Hid (fo (fmin a b) = b) := by unfold Hid fmin; rw [h, h1]; rfl
  rw [h1] at sa
  rw [h2] at sb
  have h' : FloatKind.f64.format.order a b = some .eq := h
  clear h n1 n2
  clear h1
  clear h2
  go_enter Tryd.func19, Tryd.ntmps19
  go_wp2
  go_ret2
  exact ⟨by rw [H.out]; rfl, 0, rfl⟩

set_option maxRecDepth 100000 in
set_option maxHeartbeats 1000000 in
theorem Ref_min_eqs (a b : Nat) (ha : a < 18446744073709551616) (hb : b < 18446744073709551616) (w : World) (h : D.order a b = some .eq) (h1 : sg a = sg b) :
    Calls Tryd.prog 19 #[.string ⟨#[109, 105, 110]⟩, .int .u64 a, .int .u64 b] w fun e w' => e = .returned (.tuple #[.int .u64 (fo (fmin a b)), .bool true]) ∧ ∃ n, w' = w.drewN n := by
  have hf := run_from
  have hna := nan_neq a
  have hnb := nan_neq b
  have sa := shr_top ha
  have sb := shr_top hb
  obtain ⟨n1, n2⟩ := order_nan h
  rw [n1] at hna
  rw [n2] at hnb
  have he : a = b := word_inj ha hb h1 (by
    rw [order_some n1 n2] at h
    rcases Int.lt_trichotomy (sv a) (sv b) with h' | h' | h'
    · rw [cmp_lt h'] at h; cases h
    · exact h'
    · rw [cmp_gt h'] at h; cases h)
  subst he
  have H : Hid (fo (fmin a a) = a) := by unfold Hid fmin; rw [h]; cases sg a <;> rfl
  have h' : FloatKind.f64.format.order a a = some .eq := h
  clear h n1 n2
  clear h1
  clear sa sb
  go_enter Tryd.func19, Tryd.ntmps19
  go_wp2
  go_ret2
  exact ⟨by rw [H.out]; rfl, 0, rfl⟩

set_option maxRecDepth 100000 in
set_option maxHeartbeats 1000000 in
theorem Ref_max_nan (a b : Nat) (ha : a < 18446744073709551616) (hb : b < 18446744073709551616) (w : World) (h : (nanB a || nanB b) = true) :
    Calls Tryd.prog 19 #[.string ⟨#[109, 97, 120]⟩, .int .u64 a, .int .u64 b] w fun e w' => e = .returned (.tuple #[.int .u64 (fo (fmax a b)), .bool true]) ∧ ∃ n, w' = w.drewN n := by
  have hf := run_from
  have hna := nan_neq a
  have hnb := nan_neq b
  have sa := shr_top ha
  have sb := shr_top hb
  have H : Hid (fo (fmax a b) = 9221120237041090560) := by unfold Hid fmax; rw [order_none h]; rfl
  cases h1 : nanB a
  · have h2 : nanB b = true := by rw [h1] at h; simpa using h
    rw [h1] at hna
    rw [h2] at hnb
    clear h h1 h2 sa sb
    go_enter Tryd.func19, Tryd.ntmps19
    go_wp2
    go_ret2
    exact ⟨by rw [H.out]; rfl, 0, rfl⟩
  · rw [h1] at hna
    clear h h1 hnb sa sb
    go_enter Tryd.func19, Tryd.ntmps19
    go_wp2
    go_ret2
    exact ⟨by rw [H.out]; rfl, 0, rfl⟩

set_option maxRecDepth 100000 in
set_option maxHeartbeats 1000000 in
theorem Ref_max_lt (a b : Nat) (ha : a < 18446744073709551616) (hb : b < 18446744073709551616) (w : World) (h : D.order a b = some .lt) :
    Calls Tryd.prog 19 #[.string ⟨#[109, 97, 120]⟩, .int .u64 a, .int .u64 b] w fun e w' => e = .returned (.tuple #[.int .u64 (fo (fmax a b)), .bool true]) ∧ ∃ n, w' = w.drewN n := by
  have hf := run_from
  have hna := nan_neq a
  have hnb := nan_neq b
  have sa := shr_top ha
  have sb := shr_top hb
  obtain ⟨n1, n2⟩ := order_nan h
  rw [n1] at hna
  rw [n2] at hnb
  have H : Hid (fo (fmax a b) = b) := by unfold Hid fmax; rw [h]; rfl
  have h' : FloatKind.f64.format.order a b = some .lt := h
  clear h n1 n2
  clear sa sb
  go_enter Tryd.func19, Tryd.ntmps19
  go_wp2
  go_ret2
  exact ⟨by rw [H.out]; rfl, 0, rfl⟩

set_option maxRecDepth 100000 in
set_option maxHeartbeats 1000000 in
theorem Ref_max_gt (a b : Nat) (ha : a < 18446744073709551616) (hb : b < 18446744073709551616) (w : World) (h : D.order a b = some .gt) :
    Calls Tryd.prog 19 #[.string ⟨#[109, 97, 120]⟩, .int .u64 a, .int .u64 b] w fun e w' => e = .returned (.tuple #[.int .u64 (fo (fmax a b)), .bool true]) ∧ ∃ n, w' = w.drewN n := by
  have hf := run_from
  have hna := nan_neq a
  have hnb := nan_neq b
  have sa := shr_top ha
  have sb := shr_top hb
  obtain ⟨n1, n2⟩ := order_nan h
  rw [n1] at hna
  rw [n2] at hnb
  have H : Hid (fo (fmax a b) = a) := by unfold Hid fmax; rw [h]; rfl
  have h' : FloatKind.f64.format.order a b = some .gt := h
  clear h n1 n2
  clear sa sb
  go_enter Tryd.func19, Tryd.ntmps19
  go_wp2
  go_ret2
  exact ⟨by rw [H.out]; rfl, 0, rfl⟩

set_option maxRecDepth 100000 in
set_option maxHeartbeats 1000000 in
theorem Ref_max_eq10 (a b : Nat) (ha : a < 18446744073709551616) (hb : b < 18446744073709551616) (w : World) (h : D.order a b = some .eq) (h1 : sg a = true) (h2 : sg b = false) :
    Calls Tryd.prog 19 #[.string ⟨#[109, 97, 120]⟩, .int .u64 a, .int .u64 b] w fun e w' => e = .returned (.tuple #[.int .u64 (fo (fmax a b)), .bool true]) ∧ ∃ n, w' = w.drewN n := by
  have hf := run_from
  have hna := nan_neq a
  have hnb := nan_neq b
  have sa := shr_top ha
  have sb := shr_top hb
  obtain ⟨n1, n2⟩ := order_nan h
  rw [n1] at hna
  rw [n2] at hnb
  have H : Hid (fo (fmax a b) = b) := by unfold Hid fmax; rw [h, h1]; rfl
  rw [h1] at sa
  rw [h2] at sb
  have h' : FloatKind.f64.format.order a b = some .eq := h
  clear h n1 n2
  clear h1
  clear h2
  go_enter Tryd.func19, Tryd.ntmps19
  go_wp2
  go_ret2
  exact ⟨by rw [H.out]; rfl, 0, rfl⟩

set_option maxRecDepth 100000 in
set_option maxHeartbeats 1000000 in
theorem Ref_max_eq01 (a b : Nat) (ha : a < 18446744073709551616) (hb : b < 18446744073709551616) (w : World) (h : D.order a b = some .eq) (h1 : sg a = false) (h2 : sg b = true) :
    Calls Tryd.prog 19 #[.string ⟨#[109, 97, 120]⟩, .int .u64 a, .int .u64 b] w fun e w' => e = .returned (.tuple #[.int .u64 (fo (fmax a b)), .bool true]) ∧ ∃ n, w' = w.drewN n := by
  have hf := run_from
  have hna := nan_neq a
  have hnb := nan_neq b
  have sa := shr_top ha
  have sb := shr_top hb
  obtain ⟨n1, n2⟩ := order_nan h
  rw [n1] at hna
  rw [n2] at hnb
  have H : Hid (fo (fmax a b) = a) := by unfold Hid fmax; rw [h, h1]; rfl
  rw [h1] at sa
  rw [h2] at sb
  have h' : FloatKind.f64.format.order a b = some .eq := h
  clear h n1 n2
  clear h1
  clear h2
  go_enter Tryd.func19, Tryd.ntmps19
  go_wp2
  go_ret2
  exact ⟨by rw [H.out]; rfl, 0, rfl⟩

set_option maxRecDepth 100000 in
set_option maxHeartbeats 1000000 in
theorem Ref_max_eqs (a b : Nat) (ha : a < 18446744073709551616) (hb : b < 18446744073709551616) (w : World) (h : D.order a b = some .eq) (h1 : sg a = sg b) :
    Calls Tryd.prog 19 #[.string ⟨#[109, 97, 120]⟩, .int .u64 a, .int .u64 b] w fun e w' => e = .returned (.tuple #[.int .u64 (fo (fmax a b)), .bool true]) ∧ ∃ n, w' = w.drewN n := by
  have hf := run_from
  have hna := nan_neq a
  have hnb := nan_neq b
  have sa := shr_top ha
  have sb := shr_top hb
  obtain ⟨n1, n2⟩ := order_nan h
  rw [n1] at hna
  rw [n2] at hnb
  have he : a = b := word_inj ha hb h1 (by
    rw [order_some n1 n2] at h
    rcases Int.lt_trichotomy (sv a) (sv b) with h' | h' | h'
    · rw [cmp_lt h'] at h; cases h
    · exact h'
    · rw [cmp_gt h'] at h; cases h)
  subst he
  have H : Hid (fo (fmax a a) = a) := by unfold Hid fmax; rw [h]; cases sg a <;> rfl
  have h' : FloatKind.f64.format.order a a = some .eq := h
  clear h n1 n2
  clear h1
  clear sa sb
  go_enter Tryd.func19, Tryd.ntmps19
  go_wp2
  go_ret2
  exact ⟨by rw [H.out]; rfl, 0, rfl⟩
end Go.Proofs.YtplhgjngbnkhbaaDoor
