import Derived.Test.YtplhgjngbnkhbaaDoorA
namespace Go.Proofs.YtplhgjngbnkhbaaDoor
open Go.RowKit

def fo (o : Option Nat) : Nat := o.getD nanW
theorem cl_of {o : Option Nat} {r : Nat} (h : o = some r ∨ (o = none ∧ nanB r = true)) (hok : ∀ q, o = some q → nanB q = false) : cl r = fo o := by
  rcases h with h | ⟨h, hn⟩
  · subst h; unfold cl; rw [hok r rfl]; rfl
  · subst h; unfold cl; rw [hn]; rfl

set_option maxRecDepth 100000 in
set_option maxHeartbeats 400000 in
theorem Op_add (a b : Nat) (w : World) :
    Calls Tryd.prog 18 #[.string ⟨#[43]⟩, .int .u64 a, .int .u64 b] w fun e w' => e = .returned (.tuple #[.int .u64 (fo (D.add a b)), .bool true]) ∧ ∃ n, w' = w.drewN n := by
  have hf := run_from
  obtain ⟨r, n, hr, h⟩ := arith_run .add a b (D.add a b) w rfl (by simp)
  have H : Hid (cl r = fo (D.add a b)) := cl_of h (fun q hq => (add_ok hq).1)
  clear h
  go_enter Tryd.func18, Tryd.ntmps18
  go_wp2_with (go_at_call 28; refine (bits_any _ _).mono ?_; rintro e w' ⟨rfl, rfl⟩)
  go_ret2
  exact ⟨by rw [← H.out]; rfl, _, rfl⟩

set_option maxRecDepth 100000 in
set_option maxHeartbeats 400000 in
theorem Op_sub (a b : Nat) (w : World) :
    Calls Tryd.prog 18 #[.string ⟨#[45]⟩, .int .u64 a, .int .u64 b] w fun e w' => e = .returned (.tuple #[.int .u64 (fo (D.sub a b)), .bool true]) ∧ ∃ n, w' = w.drewN n := by
  have hf := run_from
  obtain ⟨r, n, hr, h⟩ := arith_run .sub a b (D.sub a b) w rfl (by simp)
  have H : Hid (cl r = fo (D.sub a b)) := cl_of h (fun q hq => (sub_ok hq).1)
  clear h
  go_enter Tryd.func18, Tryd.ntmps18
  go_wp2_with (go_at_call 28; refine (bits_any _ _).mono ?_; rintro e w' ⟨rfl, rfl⟩)
  go_ret2
  exact ⟨by rw [← H.out]; rfl, _, rfl⟩

set_option maxRecDepth 100000 in
set_option maxHeartbeats 400000 in
theorem Op_mul (a b : Nat) (w : World) :
    Calls Tryd.prog 18 #[.string ⟨#[42]⟩, .int .u64 a, .int .u64 b] w fun e w' => e = .returned (.tuple #[.int .u64 (fo (D.mul a b)), .bool true]) ∧ ∃ n, w' = w.drewN n := by
  have hf := run_from
  obtain ⟨r, n, hr, h⟩ := arith_run .mul a b (D.mul a b) w rfl (by simp)
  have H : Hid (cl r = fo (D.mul a b)) := cl_of h (fun q hq => (mul_ok hq).1)
  clear h
  go_enter Tryd.func18, Tryd.ntmps18
  go_wp2_with (go_at_call 28; refine (bits_any _ _).mono ?_; rintro e w' ⟨rfl, rfl⟩)
  go_ret2
  exact ⟨by rw [← H.out]; rfl, _, rfl⟩

set_option maxRecDepth 100000 in
set_option maxHeartbeats 400000 in
theorem Op_div (a b : Nat) (w : World) :
    Calls Tryd.prog 18 #[.string ⟨#[47]⟩, .int .u64 a, .int .u64 b] w fun e w' => e = .returned (.tuple #[.int .u64 (fo (D.div a b)), .bool true]) ∧ ∃ n, w' = w.drewN n := by
  have hf := run_from
  obtain ⟨r, n, hr, h⟩ := arith_run .quo a b (D.div a b) w rfl (by simp)
  have H : Hid (cl r = fo (D.div a b)) := cl_of h (fun q hq => (div_ok hq).1)
  clear h
  go_enter Tryd.func18, Tryd.ntmps18
  go_wp2_with (go_at_call 28; refine (bits_any _ _).mono ?_; rintro e w' ⟨rfl, rfl⟩)
  go_ret2
  exact ⟨by rw [← H.out]; rfl, _, rfl⟩

/-- The least and the greatest of two. -/
def fmin (x y : Nat) : Option Nat := match D.order x y with
  | none => none
  | some .lt => some x
  | some .gt => some y
  | some .eq => some (if sg x then x else y)
def fmax (x y : Nat) : Option Nat := match D.order x y with
  | none => none
  | some .lt => some y
  | some .gt => some x
  | some .eq => some (if sg x then y else x)
theorem neg_read (x : Nat) : (FloatKind.f64.decode x).neg = sg x := by
  show (D.read x).neg = sg x
  rcases Nat.lt_trichotomy (rg x) 9218868437227405312 with h | h | h
  · obtain ⟨m, a, hn⟩ := num_of h
    rw [hn.read]; rfl
  · rw [read_inf h]; rfl
  · rw [read_nan h]; rfl
theorem order_nan {x y : Nat} {c : Ordering} (h : D.order x y = some c) : nanB x = false ∧ nanB y = false := by
  by_cases hn : (nanB x || nanB y) = true
  · rw [order_none hn] at h; cases h
  · simpa using hn
theorem fmin_ok {x y r : Nat} (h : fmin x y = some r) : nanB r = false ∧ (r = x ∨ r = y) := by
  unfold fmin at h
  split at h
  · cases h
  · rename_i e; cases h; exact ⟨(order_nan e).1, .inl rfl⟩
  · rename_i e; cases h; exact ⟨(order_nan e).2, .inr rfl⟩
  · rename_i e; cases h
    split
    · exact ⟨(order_nan e).1, .inl rfl⟩
    · exact ⟨(order_nan e).2, .inr rfl⟩
theorem fmax_ok {x y r : Nat} (h : fmax x y = some r) : nanB r = false ∧ (r = x ∨ r = y) := by
  unfold fmax at h
  split at h
  · cases h
  · rename_i e; cases h; exact ⟨(order_nan e).2, .inr rfl⟩
  · rename_i e; cases h; exact ⟨(order_nan e).1, .inl rfl⟩
  · rename_i e; cases h
    split
    · exact ⟨(order_nan e).2, .inr rfl⟩
    · exact ⟨(order_nan e).1, .inl rfl⟩
theorem min_run (x y : Nat) (w : World) (A : Array TypeId) (t : TypeId) :
    ∃ (r n : Nat), (Builtin.min_ A t #[.float .f64 x, .float .f64 y]).run Tryd.prog w = .ok (.float .f64 r) (w.drewN n) ∧ ((fmin x y = some r) ∨ (fmin x y = none ∧ nanB r = true)) := by
  unfold fmin
  cases e : D.order x y with
  | none =>
    refine ⟨Question.cut (.nanMinMax .f64 false x y) (w.tape w.drawn (.nanMinMax .f64 false x y)), 1, ?_, .inr ⟨rfl, nanB_pick 0 _⟩⟩
    rw [← World.drew_is_drewN]
    have e' : FloatKind.f64.format.order x y = none := e
    simp [Builtin.min_, Builtin.min2, e', Question.forced]
  | some c =>
    have e' : FloatKind.f64.format.order x y = some c := e
    cases c
    · exact ⟨_, 0, by rw [World.drewN_zero]; simp [Builtin.min_, Builtin.min2, e'], .inl rfl⟩
    · exact ⟨_, 0, by rw [World.drewN_zero]; simp [Builtin.min_, Builtin.min2, e', neg_read], .inl rfl⟩
    · exact ⟨_, 0, by rw [World.drewN_zero]; simp [Builtin.min_, Builtin.min2, e'], .inl rfl⟩
theorem max_run (x y : Nat) (w : World) (A : Array TypeId) (t : TypeId) :
    ∃ (r n : Nat), (Builtin.max_ A t #[.float .f64 x, .float .f64 y]).run Tryd.prog w = .ok (.float .f64 r) (w.drewN n) ∧ ((fmax x y = some r) ∨ (fmax x y = none ∧ nanB r = true)) := by
  unfold fmax
  cases e : D.order x y with
  | none =>
    refine ⟨Question.cut (.nanMinMax .f64 true x y) (w.tape w.drawn (.nanMinMax .f64 true x y)), 1, ?_, .inr ⟨rfl, nanB_pick 0 _⟩⟩
    rw [← World.drew_is_drewN]
    have e' : FloatKind.f64.format.order x y = none := e
    simp [Builtin.max_, Builtin.max2, e', Question.forced]
  | some c =>
    have e' : FloatKind.f64.format.order x y = some c := e
    cases c
    · exact ⟨_, 0, by rw [World.drewN_zero]; simp [Builtin.max_, Builtin.max2, e'], .inl rfl⟩
    · exact ⟨_, 0, by rw [World.drewN_zero]; simp [Builtin.max_, Builtin.max2, e', neg_read], .inl rfl⟩
    · exact ⟨_, 0, by rw [World.drewN_zero]; simp [Builtin.max_, Builtin.max2, e'], .inl rfl⟩

set_option maxRecDepth 100000 in
set_option maxHeartbeats 400000 in
theorem Op_min (a b : Nat) (w : World) :
    Calls Tryd.prog 18 #[.string ⟨#[109, 105, 110]⟩, .int .u64 a, .int .u64 b] w fun e w' => e = .returned (.tuple #[.int .u64 (fo (fmin a b)), .bool true]) ∧ ∃ n, w' = w.drewN n := by
  have hf := run_from
  obtain ⟨r, n, hr, h⟩ := min_run a b w #[42, 42] 42
  have H : Hid (cl r = fo (fmin a b)) := cl_of h (fun q hq => (fmin_ok hq).1)
  clear h
  go_enter Tryd.func18, Tryd.ntmps18
  go_wp2_with (go_at_call 28; refine (bits_any _ _).mono ?_; rintro e w' ⟨rfl, rfl⟩)
  go_ret2
  exact ⟨by rw [← H.out]; rfl, _, rfl⟩

set_option maxRecDepth 100000 in
set_option maxHeartbeats 400000 in
theorem Op_max (a b : Nat) (w : World) :
    Calls Tryd.prog 18 #[.string ⟨#[109, 97, 120]⟩, .int .u64 a, .int .u64 b] w fun e w' => e = .returned (.tuple #[.int .u64 (fo (fmax a b)), .bool true]) ∧ ∃ n, w' = w.drewN n := by
  have hf := run_from
  obtain ⟨r, n, hr, h⟩ := max_run a b w #[42, 42] 42
  have H : Hid (cl r = fo (fmax a b)) := cl_of h (fun q hq => (fmax_ok hq).1)
  clear h
  go_enter Tryd.func18, Tryd.ntmps18
  go_wp2_with (go_at_call 28; refine (bits_any _ _).mono ?_; rintro e w' ⟨rfl, rfl⟩)
  go_ret2
  exact ⟨by rw [← H.out]; rfl, _, rfl⟩

set_option maxRecDepth 100000 in
set_option maxHeartbeats 400000 in
theorem Is_lt (a b : Nat) (w : World) :
    Calls Tryd.prog 20 #[.string ⟨#[108, 116]⟩, .int .u64 a, .int .u64 b] w fun e w' => e = .returned (.tuple #[.bool (D.order a b == some .lt), .bool true]) ∧ w' = w := by
  have hf := run_from
  go_enter Tryd.func20, Tryd.ntmps20
  go_wp2
  go_ret2
  exact ⟨by rfl, rfl⟩

set_option maxRecDepth 100000 in
set_option maxHeartbeats 400000 in
theorem Is_le (a b : Nat) (w : World) :
    Calls Tryd.prog 20 #[.string ⟨#[108, 101]⟩, .int .u64 a, .int .u64 b] w fun e w' => e = .returned (.tuple #[.bool (D.order a b == some .lt || D.order a b == some .eq), .bool true]) ∧ w' = w := by
  have hf := run_from
  go_enter Tryd.func20, Tryd.ntmps20
  go_wp2
  go_ret2
  exact ⟨by rfl, rfl⟩

set_option maxRecDepth 100000 in
set_option maxHeartbeats 400000 in
theorem Is_gt (a b : Nat) (w : World) :
    Calls Tryd.prog 20 #[.string ⟨#[103, 116]⟩, .int .u64 a, .int .u64 b] w fun e w' => e = .returned (.tuple #[.bool (D.order a b == some .gt), .bool true]) ∧ w' = w := by
  have hf := run_from
  go_enter Tryd.func20, Tryd.ntmps20
  go_wp2
  go_ret2
  exact ⟨by rfl, rfl⟩

set_option maxRecDepth 100000 in
set_option maxHeartbeats 400000 in
theorem Is_ge (a b : Nat) (w : World) :
    Calls Tryd.prog 20 #[.string ⟨#[103, 101]⟩, .int .u64 a, .int .u64 b] w fun e w' => e = .returned (.tuple #[.bool (D.order a b == some .gt || D.order a b == some .eq), .bool true]) ∧ w' = w := by
  have hf := run_from
  go_enter Tryd.func20, Tryd.ntmps20
  go_wp2
  go_ret2
  exact ⟨by rfl, rfl⟩

set_option maxRecDepth 100000 in
set_option maxHeartbeats 400000 in
theorem Is_eq (a b : Nat) (w : World) :
    Calls Tryd.prog 20 #[.string ⟨#[101, 113]⟩, .int .u64 a, .int .u64 b] w fun e w' => e = .returned (.tuple #[.bool (D.order a b == some .eq), .bool true]) ∧ w' = w := by
  have hf := run_from
  go_enter Tryd.func20, Tryd.ntmps20
  go_wp2
  go_ret2
  exact ⟨by rfl, rfl⟩

set_option maxRecDepth 100000 in
set_option maxHeartbeats 400000 in
theorem Is_ne (a b : Nat) (w : World) :
    Calls Tryd.prog 20 #[.string ⟨#[110, 101]⟩, .int .u64 a, .int .u64 b] w fun e w' => e = .returned (.tuple #[.bool (D.order a b != some .eq), .bool true]) ∧ w' = w := by
  have hf := run_from
  go_enter Tryd.func20, Tryd.ntmps20
  go_wp2
  go_ret2
  exact ⟨by rfl, rfl⟩

set_option maxRecDepth 100000 in
set_option maxHeartbeats 400000 in
theorem Is_same (a b : Nat) (w : World) :
    Calls Tryd.prog 20 #[.string ⟨#[115, 97, 109, 101]⟩, .int .u64 a, .int .u64 b] w fun e w' => e = .returned (.tuple #[.bool (cl a == cl b), .bool true]) ∧ w' = w := by
  have hf := run_from
  have H : Hid (((cl a : Int) == (cl b : Int)) = (cl a == cl b)) := by unfold Hid; rw [Bool.eq_iff_iff]; simp; omega
  go_enter Tryd.func20, Tryd.ntmps20
  go_wp2_with (go_at_call 28; refine (bits_any _ _).mono ?_; rintro e w' ⟨rfl, rfl⟩)
  go_ret2
  exact ⟨by rw [← H.out]; rfl, rfl⟩
end Go.Proofs.YtplhgjngbnkhbaaDoor
