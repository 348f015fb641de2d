import Derived.Test.YtcmjpkfinbakkaaGreatDoorRF
import Derived.RegionTactic
import Derived.BigRegion
import Derived.BigQuiet
import Derived.IntWalk
import Derived.Deep.QuietTactic
import Derived.Deep.LoopGhost
import Derived.Lib.ConvBytes
import Derived.Lib.Strings
namespace Go.Proofs.YtcmjpkfinbakkaaGreatDoor.Fl
set_option maxRecDepth 100000
open Go.RowKit

def fo (o : Option Nat) : Nat := o.getD nanW
theorem cl_of {o : Option Nat} {r : Nat} (h : o = some r ∨ (o = none ∧ nanB r = true)) (hok : ∀ q, o = some q → nanB q = false) : cl r = fo o := by
  rcases h with h | ⟨h, hn⟩
  · subst h; unfold cl; rw [hok r rfl]; rfl
  · subst h; unfold cl; rw [hn]; rfl

set_option maxRecDepth 100000 in
set_option maxHeartbeats 400000 in
theorem Op_add (a b : Nat) (w : World) :
    Calls Tryz.prog 115 #[.string ⟨#[43]⟩, .int .u64 a, .int .u64 b] w fun e w' => e = .returned (.tuple #[.int .u64 (fo (D.add a b)), .bool true]) ∧ ∃ n, w' = w.drewN n := by
  have hf := run_from
  obtain ⟨r, n, hr, h⟩ := arith_run .add a b (D.add a b) w rfl (by simp)
  have H : Hid (cl r = fo (D.add a b)) := cl_of h (fun q hq => (add_ok hq).1)
  clear h
  go_enter Tryz.func115, Tryz.ntmps115
  go_wp2_with (go_at_call 158; refine (bits_any _ _).mono ?_; rintro e w' ⟨rfl, rfl⟩)
  go_ret2
  exact ⟨by rw [← H.out]; rfl, _, rfl⟩

set_option maxRecDepth 100000 in
set_option maxHeartbeats 400000 in
theorem Op_sub (a b : Nat) (w : World) :
    Calls Tryz.prog 115 #[.string ⟨#[45]⟩, .int .u64 a, .int .u64 b] w fun e w' => e = .returned (.tuple #[.int .u64 (fo (D.sub a b)), .bool true]) ∧ ∃ n, w' = w.drewN n := by
  have hf := run_from
  obtain ⟨r, n, hr, h⟩ := arith_run .sub a b (D.sub a b) w rfl (by simp)
  have H : Hid (cl r = fo (D.sub a b)) := cl_of h (fun q hq => (sub_ok hq).1)
  clear h
  go_enter Tryz.func115, Tryz.ntmps115
  go_wp2_with (go_at_call 158; refine (bits_any _ _).mono ?_; rintro e w' ⟨rfl, rfl⟩)
  go_ret2
  exact ⟨by rw [← H.out]; rfl, _, rfl⟩

set_option maxRecDepth 100000 in
set_option maxHeartbeats 400000 in
theorem Op_mul (a b : Nat) (w : World) :
    Calls Tryz.prog 115 #[.string ⟨#[42]⟩, .int .u64 a, .int .u64 b] w fun e w' => e = .returned (.tuple #[.int .u64 (fo (D.mul a b)), .bool true]) ∧ ∃ n, w' = w.drewN n := by
  have hf := run_from
  obtain ⟨r, n, hr, h⟩ := arith_run .mul a b (D.mul a b) w rfl (by simp)
  have H : Hid (cl r = fo (D.mul a b)) := cl_of h (fun q hq => (mul_ok hq).1)
  clear h
  go_enter Tryz.func115, Tryz.ntmps115
  go_wp2_with (go_at_call 158; refine (bits_any _ _).mono ?_; rintro e w' ⟨rfl, rfl⟩)
  go_ret2
  exact ⟨by rw [← H.out]; rfl, _, rfl⟩

set_option maxRecDepth 100000 in
set_option maxHeartbeats 400000 in
theorem Op_div (a b : Nat) (w : World) :
    Calls Tryz.prog 115 #[.string ⟨#[47]⟩, .int .u64 a, .int .u64 b] w fun e w' => e = .returned (.tuple #[.int .u64 (fo (D.div a b)), .bool true]) ∧ ∃ n, w' = w.drewN n := by
  have hf := run_from
  obtain ⟨r, n, hr, h⟩ := arith_run .quo a b (D.div a b) w rfl (by simp)
  have H : Hid (cl r = fo (D.div a b)) := cl_of h (fun q hq => (div_ok hq).1)
  clear h
  go_enter Tryz.func115, Tryz.ntmps115
  go_wp2_with (go_at_call 158; refine (bits_any _ _).mono ?_; rintro e w' ⟨rfl, rfl⟩)
  go_ret2
  exact ⟨by rw [← H.out]; rfl, _, rfl⟩

/-- The least and the greatest of two. -/
def fmin (x y : Nat) : Option Nat := match D.order x y with
  | none => none
  | some .lt => some x
  | some .gt => some y
  | some .eq => some (if sg x then x else y)
def fmax (x y : Nat) : Option Nat := match D.order x y with
  | none => none
  | some .lt => some y
  | some .gt => some x
  | some .eq => some (if sg x then y else x)
theorem neg_read (x : Nat) : (FloatKind.f64.decode x).neg = sg x := by
  show (D.read x).neg = sg x
  rcases Nat.lt_trichotomy (rg x) 9218868437227405312 with h | h | h
  · obtain ⟨m, a, hn⟩ := num_of h
    rw [hn.read]; rfl
  · rw [read_inf h]; rfl
  · rw [read_nan h]; rfl
theorem order_nan {x y : Nat} {c : Ordering} (h : D.order x y = some c) : nanB x = false ∧ nanB y = false := by
  by_cases hn : (nanB x || nanB y) = true
  · rw [order_none hn] at h; cases h
  · simpa using hn
theorem fmin_ok {x y r : Nat} (h : fmin x y = some r) : nanB r = false ∧ (r = x ∨ r = y) := by
  unfold fmin at h
  split at h
  · cases h
  · rename_i e; cases h; exact ⟨(order_nan e).1, .inl rfl⟩
  · rename_i e; cases h; exact ⟨(order_nan e).2, .inr rfl⟩
  · rename_i e; cases h
    split
    · exact ⟨(order_nan e).1, .inl rfl⟩
    · exact ⟨(order_nan e).2, .inr rfl⟩
theorem fmax_ok {x y r : Nat} (h : fmax x y = some r) : nanB r = false ∧ (r = x ∨ r = y) := by
  unfold fmax at h
  split at h
  · cases h
  · rename_i e; cases h; exact ⟨(order_nan e).2, .inr rfl⟩
  · rename_i e; cases h; exact ⟨(order_nan e).1, .inl rfl⟩
  · rename_i e; cases h
    split
    · exact ⟨(order_nan e).2, .inr rfl⟩
    · exact ⟨(order_nan e).1, .inl rfl⟩
theorem min_run (x y : Nat) (w : World) (A : Array TypeId) (t : TypeId) :
    ∃ (r n : Nat), (Builtin.min_ A t #[.float .f64 x, .float .f64 y]).run Tryz.prog w = .ok (.float .f64 r) (w.drewN n) ∧ ((fmin x y = some r) ∨ (fmin x y = none ∧ nanB r = true)) := by
  unfold fmin
  cases e : D.order x y with
  | none =>
    refine ⟨Question.cut (.nanMinMax .f64 false x y) (w.tape w.drawn (.nanMinMax .f64 false x y)), 1, ?_, .inr ⟨rfl, nanB_pick 0 _⟩⟩
    rw [← World.drew_is_drewN]
    have e' : FloatKind.f64.format.order x y = none := e
    simp [Builtin.min_, Builtin.min2, e', Question.forced]
  | some c =>
    have e' : FloatKind.f64.format.order x y = some c := e
    cases c
    · exact ⟨_, 0, by rw [World.drewN_zero]; simp [Builtin.min_, Builtin.min2, e'], .inl rfl⟩
    · exact ⟨_, 0, by rw [World.drewN_zero]; simp [Builtin.min_, Builtin.min2, e', neg_read], .inl rfl⟩
    · exact ⟨_, 0, by rw [World.drewN_zero]; simp [Builtin.min_, Builtin.min2, e'], .inl rfl⟩
theorem max_run (x y : Nat) (w : World) (A : Array TypeId) (t : TypeId) :
    ∃ (r n : Nat), (Builtin.max_ A t #[.float .f64 x, .float .f64 y]).run Tryz.prog w = .ok (.float .f64 r) (w.drewN n) ∧ ((fmax x y = some r) ∨ (fmax x y = none ∧ nanB r = true)) := by
  unfold fmax
  cases e : D.order x y with
  | none =>
    refine ⟨Question.cut (.nanMinMax .f64 true x y) (w.tape w.drawn (.nanMinMax .f64 true x y)), 1, ?_, .inr ⟨rfl, nanB_pick 0 _⟩⟩
    rw [← World.drew_is_drewN]
    have e' : FloatKind.f64.format.order x y = none := e
    simp [Builtin.max_, Builtin.max2, e', Question.forced]
  | some c =>
    have e' : FloatKind.f64.format.order x y = some c := e
    cases c
    · exact ⟨_, 0, by rw [World.drewN_zero]; simp [Builtin.max_, Builtin.max2, e'], .inl rfl⟩
    · exact ⟨_, 0, by rw [World.drewN_zero]; simp [Builtin.max_, Builtin.max2, e', neg_read], .inl rfl⟩
    · exact ⟨_, 0, by rw [World.drewN_zero]; simp [Builtin.max_, Builtin.max2, e'], .inl rfl⟩

set_option maxRecDepth 100000 in
set_option maxHeartbeats 400000 in
theorem Op_min (a b : Nat) (w : World) :
    Calls Tryz.prog 115 #[.string ⟨#[109, 105, 110]⟩, .int .u64 a, .int .u64 b] w fun e w' => e = .returned (.tuple #[.int .u64 (fo (fmin a b)), .bool true]) ∧ ∃ n, w' = w.drewN n := by
  have hf := run_from
  obtain ⟨r, n, hr, h⟩ := min_run a b w #[110, 110] 110
  have H : Hid (cl r = fo (fmin a b)) := cl_of h (fun q hq => (fmin_ok hq).1)
  clear h
  go_enter Tryz.func115, Tryz.ntmps115
  go_wp2_with (go_at_call 158; refine (bits_any _ _).mono ?_; rintro e w' ⟨rfl, rfl⟩)
  go_ret2
  exact ⟨by rw [← H.out]; rfl, _, rfl⟩

set_option maxRecDepth 100000 in
set_option maxHeartbeats 400000 in
theorem Op_max (a b : Nat) (w : World) :
    Calls Tryz.prog 115 #[.string ⟨#[109, 97, 120]⟩, .int .u64 a, .int .u64 b] w fun e w' => e = .returned (.tuple #[.int .u64 (fo (fmax a b)), .bool true]) ∧ ∃ n, w' = w.drewN n := by
  have hf := run_from
  obtain ⟨r, n, hr, h⟩ := max_run a b w #[110, 110] 110
  have H : Hid (cl r = fo (fmax a b)) := cl_of h (fun q hq => (fmax_ok hq).1)
  clear h
  go_enter Tryz.func115, Tryz.ntmps115
  go_wp2_with (go_at_call 158; refine (bits_any _ _).mono ?_; rintro e w' ⟨rfl, rfl⟩)
  go_ret2
  exact ⟨by rw [← H.out]; rfl, _, rfl⟩

set_option maxRecDepth 100000 in
set_option maxHeartbeats 400000 in
theorem Is_lt (a b : Nat) (w : World) :
    Calls Tryz.prog 116 #[.string ⟨#[108, 116]⟩, .int .u64 a, .int .u64 b] w fun e w' => e = .returned (.tuple #[.bool (D.order a b == some .lt), .bool true]) ∧ w' = w := by
  have hf := run_from
  go_enter Tryz.func116, Tryz.ntmps116
  go_wp2
  go_ret2
  exact ⟨by rfl, rfl⟩

set_option maxRecDepth 100000 in
set_option maxHeartbeats 400000 in
theorem Is_le (a b : Nat) (w : World) :
    Calls Tryz.prog 116 #[.string ⟨#[108, 101]⟩, .int .u64 a, .int .u64 b] w fun e w' => e = .returned (.tuple #[.bool (D.order a b == some .lt || D.order a b == some .eq), .bool true]) ∧ w' = w := by
  have hf := run_from
  go_enter Tryz.func116, Tryz.ntmps116
  go_wp2
  go_ret2
  exact ⟨by rfl, rfl⟩

set_option maxRecDepth 100000 in
set_option maxHeartbeats 400000 in
theorem Is_gt (a b : Nat) (w : World) :
    Calls Tryz.prog 116 #[.string ⟨#[103, 116]⟩, .int .u64 a, .int .u64 b] w fun e w' => e = .returned (.tuple #[.bool (D.order a b == some .gt), .bool true]) ∧ w' = w := by
  have hf := run_from
  go_enter Tryz.func116, Tryz.ntmps116
  go_wp2
  go_ret2
  exact ⟨by rfl, rfl⟩

set_option maxRecDepth 100000 in
set_option maxHeartbeats 400000 in
theorem Is_ge (a b : Nat) (w : World) :
    Calls Tryz.prog 116 #[.string ⟨#[103, 101]⟩, .int .u64 a, .int .u64 b] w fun e w' => e = .returned (.tuple #[.bool (D.order a b == some .gt || D.order a b == some .eq), .bool true]) ∧ w' = w := by
  have hf := run_from
  go_enter Tryz.func116, Tryz.ntmps116
  go_wp2
  go_ret2
  exact ⟨by rfl, rfl⟩

set_option maxRecDepth 100000 in
set_option maxHeartbeats 400000 in
theorem Is_eq (a b : Nat) (w : World) :
    Calls Tryz.prog 116 #[.string ⟨#[101, 113]⟩, .int .u64 a, .int .u64 b] w fun e w' => e = .returned (.tuple #[.bool (D.order a b == some .eq), .bool true]) ∧ w' = w := by
  have hf := run_from
  go_enter Tryz.func116, Tryz.ntmps116
  go_wp2
  go_ret2
  exact ⟨by rfl, rfl⟩

set_option maxRecDepth 100000 in
set_option maxHeartbeats 400000 in
theorem Is_ne (a b : Nat) (w : World) :
    Calls Tryz.prog 116 #[.string ⟨#[110, 101]⟩, .int .u64 a, .int .u64 b] w fun e w' => e = .returned (.tuple #[.bool (D.order a b != some .eq), .bool true]) ∧ w' = w := by
  have hf := run_from
  go_enter Tryz.func116, Tryz.ntmps116
  go_wp2
  go_ret2
  exact ⟨by rfl, rfl⟩

set_option maxRecDepth 100000 in
set_option maxHeartbeats 400000 in
theorem Is_same (a b : Nat) (w : World) :
    Calls Tryz.prog 116 #[.string ⟨#[115, 97, 109, 101]⟩, .int .u64 a, .int .u64 b] w fun e w' => e = .returned (.tuple #[.bool (cl a == cl b), .bool true]) ∧ w' = w := by
  have hf := run_from
  have H : Hid (((cl a : Int) == (cl b : Int)) = (cl a == cl b)) := by unfold Hid; rw [Bool.eq_iff_iff]; simp; omega
  go_enter Tryz.func116, Tryz.ntmps116
  go_wp2_with (go_at_call 158; refine (bits_any _ _).mono ?_; rintro e w' ⟨rfl, rfl⟩)
  go_ret2
  exact ⟨by rw [← H.out]; rfl, rfl⟩
end Go.Proofs.YtcmjpkfinbakkaaGreatDoor.Fl

namespace Go.Proofs.YtcmjpkfinbakkaaGreatDoor.Fl
set_option maxRecDepth 100000
open Go.RowKit

/-- Does s begin with p? -/
def hp (s p : ByteArray) : Bool := decide (p.size ≤ s.size) && ((s.extract 0 p.size).toList == p.toList)

set_option maxHeartbeats 1000000 in
theorem HasPrefix_lite (s p : ByteArray) (w : World) :
    Calls Tryz.prog 86 #[.string s, .string p] w fun e w' => e = .returned (.bool (hp s p)) ∧ w' = w := by
  by_cases h : p.size ≤ s.size
  · have HE : Hid (hp s p = ((s.extract 0 p.size).toList == p.toList)) := by unfold Hid hp; simp [h]
    go_enter Tryz.func86, Tryz.ntmps86
    go_wp2
    go_ret
    refine ⟨?_, rfl⟩
    rw [HE.out]; rfl
  · have HE : Hid (hp s p = false) := by unfold Hid hp; simp [h]
    go_enter Tryz.func86, Tryz.ntmps86
    go_wp2
    go_ret
    refine ⟨?_, rfl⟩
    rw [HE.out]; rfl
theorem HasPrefix_any (s p : ByteArray) (w : World) :
    Calls Tryz.prog 41 #[.string s, .string p] w fun e w' => e = .returned (.bool (hp s p)) ∧ w' = w := by
  go_enter Tryz.func41, Tryz.ntmps41
  go_wp2_with (go_at_call 86; refine (HasPrefix_lite _ _ _).mono ?_; rintro e w' ⟨rfl, rfl⟩)
  go_ret
  exact ⟨rfl, rfl⟩
theorem CutPrefix_lite (s p : ByteArray) (w : World) :
    Calls Tryz.prog 207 #[.string s, .string p] w fun e w' => e = .returned (.tuple #[.string (if hp s p = true then s.extract p.size s.size else s), .bool (hp s p)]) ∧ w' = w := by
  cases h : hp s p
  · have H := Lib.hid h
    clear h
    go_enter Tryz.func207, Tryz.ntmps207
    go_wp2_with (go_at_call 86; refine (HasPrefix_lite _ _ _).mono ?_; rw [H.out]; rintro e w' ⟨rfl, rfl⟩)
    go_ret2
    exact ⟨rfl, rfl⟩
  · have hle : p.size ≤ s.size := by unfold hp at h; simp at h; exact h.1
    have H := Lib.hid h
    clear h
    go_enter Tryz.func207, Tryz.ntmps207
    go_wp2_with (go_at_call 86; refine (HasPrefix_lite _ _ _).mono ?_; rw [H.out]; rintro e w' ⟨rfl, rfl⟩)
    go_ret2
    exact ⟨rfl, rfl⟩
theorem CutPrefix_any (s p : ByteArray) (w : World) :
    Calls Tryz.prog 156 #[.string s, .string p] w fun e w' => e = .returned (.tuple #[.string (if hp s p = true then s.extract p.size s.size else s), .bool (hp s p)]) ∧ w' = w := by
  obtain ⟨r, hr⟩ : ∃ r, (if hp s p = true then s.extract p.size s.size else s) = r := ⟨_, rfl⟩
  have HR := Lib.hid hr
  rw [hr]
  clear hr
  go_enter Tryz.func156, Tryz.ntmps156
  go_wp2_with (go_at_call 207; refine (CutPrefix_lite s p _).mono ?_; rw [HR.out]; rintro e w' ⟨rfl, rfl⟩)
  go_ret2
  exact ⟨rfl, rfl⟩

/-- Is it a decimal digit? -/
def isDig (c : UInt8) : Bool := decide (48 ≤ c.toNat ∧ c.toNat ≤ 57)
theorem Digit_any (c : UInt8) (w : World) : Calls Tryz.prog 252 #[.int .u8 c.toNat] w fun e w' => e = .returned (.bool (isDig c)) ∧ w' = w := by
  by_cases h1 : 48 ≤ c.toNat
  · by_cases h2 : c.toNat ≤ 57
    · have d2 : decide ((c.toNat : Int) ≤ 57) = true := by simp; omega
      have H : Hid (isDig c = true) := by unfold Hid isDig; simp [h1, h2]
      go_enter Tryz.func252, Tryz.ntmps252
      go_wp2
      go_ret
      exact ⟨by rw [H.out]; rfl, rfl⟩
    · have d2 : decide ((c.toNat : Int) ≤ 57) = false := by simp; omega
      have H : Hid (isDig c = false) := by unfold Hid isDig; simp; omega
      go_enter Tryz.func252, Tryz.ntmps252
      go_wp2
      go_ret
      exact ⟨by rw [H.out]; rfl, rfl⟩
  · have H : Hid (isDig c = false) := by unfold Hid isDig; simp; omega
    go_enter Tryz.func252, Tryz.ntmps252
    go_wp2
    go_ret
    exact ⟨by rw [H.out]; rfl, rfl⟩

def gb (s : ByteArray) (i : Nat) : UInt8 := s.data.toList.getD i 0
theorem gb_eq (s : ByteArray) (i : Nat) (h : i < s.size) : s[i] = gb s i := by
  unfold gb
  rw [List.getD_eq_getElem?_getD, List.getElem?_eq_getElem (by simpa using h)]
  rfl
/-- How many digits stand at the beginning. -/
def lead (s : ByteArray) : Nat := (s.data.toList.takeWhile isDig).length
theorem takeWhile_all {p : UInt8 → Bool} {l : List UInt8} (h : ∀ a ∈ l, p a = true) : l.takeWhile p = l := by
  induction l with
  | nil => rfl
  | cons a l ih => simp [h a (by simp)]; exact ih (fun b hb => h b (by simp [hb]))
theorem lead_iff (s : ByteArray) (k : Nat) (hk : k ≤ s.size) (hall : ∀ i, i < k → isDig (gb s i) = true) (hend : k = s.size ∨ isDig (gb s k) = false) : lead s = k := by
  unfold lead
  have hl : k ≤ s.data.toList.length := by simpa using hk
  have hsplit : s.data.toList = s.data.toList.take k ++ s.data.toList.drop k := (List.take_append_drop k _).symm
  have h1 : (s.data.toList.take k).takeWhile isDig = s.data.toList.take k := by
    apply takeWhile_all
    intro c hc
    obtain ⟨i, hi, rfl⟩ := List.mem_iff_getElem.1 hc
    rw [List.length_take] at hi
    have := hall i (by omega)
    unfold gb at this
    rw [List.getD_eq_getElem?_getD, List.getElem?_eq_getElem (by omega)] at this
    rw [List.getElem_take]
    exact this
  rw [hsplit, List.takeWhile_append, h1, if_pos rfl, List.length_append, List.length_take]
  have h2 : (s.data.toList.drop k).takeWhile isDig = [] := by
    rcases hend with h | h
    · rw [List.drop_of_length_le (by simpa using Nat.le_of_eq h.symm)]; rfl
    · cases e : s.data.toList.drop k with
      | nil => rfl
      | cons c l =>
        have hc : gb s k = c := by
          unfold gb
          rw [List.getD_eq_getElem?_getD]
          have : (s.data.toList.drop k)[0]? = some c := by rw [e]; rfl
          rw [List.getElem?_drop, Nat.add_zero] at this
          rw [this]; rfl
        rw [List.takeWhile_cons, ← hc, h]; rfl
  rw [h2]; simp; omega

set_option maxRecDepth 100000 in
set_option maxHeartbeats 1000000 in
theorem Digits_any (s : ByteArray) (w : World) (hs : s.size ≤ 100000) : Calls Tryz.prog 210 #[.string s] w fun e w' => e = .returned (.int .i64 (lead s)) ∧ w' = w := by
  go_enter Tryz.func210, Tryz.ntmps210
  go_wp2_with fail
  go_loop [3] (fun n => ∃ k : Nat, k ≤ s.size ∧ n = .int .i64 k ∧ Hid (∀ i, i < k → isDig (gb s i) = true)) (fun n => s.size - (intOf n).toNat)
  case atStart => exact ⟨0, by omega, rfl, Lib.hid (fun i h => absurd h (by omega))⟩
  case round =>
    obtain ⟨k, hk, rfl, HA⟩ := hrel
    by_cases hlt : k < s.size
    · have hgb := gb_eq s k hlt
      have hltI : (k : Int) < (s.size : Int) := by omega
      cases hd : isDig (gb s k)
      · have HD := Lib.hid hd
        clear hd
        go_wp2_with (go_at_call 252; refine (Digit_any _ _).mono ?_; rw [HD.out]; rintro e w' ⟨rfl, rfl⟩)
        go_ret
        exact ⟨by rw [lead_iff s k hk HA.out (.inr HD.out)]; rfl, rfl⟩
      · have HD := Lib.hid hd
        clear hd
        go_wp2_with (go_at_call 252; refine (Digit_any _ _).mono ?_; rw [HD.out]; rintro e w' ⟨rfl, rfl⟩)
        go_round
        case rel =>
          refine ⟨k + 1, by omega, by go_num, Lib.hid (fun i hi => ?_)⟩
          by_cases h : i < k
          · exact HA.out i h
          · rw [show i = k by omega]; exact HD.out
        case measure => simp [intOf]; omega
    · have hdf : decide ((k : Int) < (s.size : Int)) = false := by simp; omega
      have HE : Hid (lead s = k) := lead_iff s k hk HA.out (.inl (by omega))
      go_wp2_with fail
      go_ret
      exact ⟨by rw [HE.out]; rfl, rfl⟩
end Go.Proofs.YtcmjpkfinbakkaaGreatDoor.Fl

namespace Go.Proofs.YtcmjpkfinbakkaaGreatDoor.Fl
set_option maxRecDepth 100000
open Go.RowKit

/-- One to fifteen digits? -/
def numB (s : ByteArray) : Bool := decide (1 ≤ s.size) && (decide (s.size ≤ 15) && (lead s == s.size))
set_option maxRecDepth 100000 in
set_option maxHeartbeats 1000000 in
theorem Number_any (s : ByteArray) (w : World) (hs : s.size ≤ 9223372036854775807) : Calls Tryz.prog 160 #[.string s, .int .i64 1, .int .i64 15] w fun e w' => e = .returned (.bool (numB s)) ∧ w' = w := by
  by_cases h1 : 1 ≤ s.size
  · by_cases h2 : s.size ≤ 15
    · have h1' : (1 : Int) ≤ (s.size : Int) := by omega
      have h2' : (s.size : Int) ≤ 15 := by omega
      have H : Hid (numB s = ((lead s : Int) == (s.size : Int))) := by
        unfold Hid numB; simp [h1, h2]; rw [Bool.eq_iff_iff]; simp; omega
      go_enter Tryz.func160, Tryz.ntmps160
      go_wp2_with (go_at_call 210; refine (Digits_any _ _ (by omega)).mono ?_; rintro e w' ⟨rfl, rfl⟩)
      go_ret
      exact ⟨by rw [H.out]; rfl, rfl⟩
    · have h2' : ¬ (s.size : Int) ≤ 15 := by omega
      have d2 : decide ((s.size : Int) ≤ 15) = false := by simp; omega
      have h1' : (1 : Int) ≤ (s.size : Int) := by omega
      have H : Hid (numB s = false) := by unfold Hid numB; simp [h2]
      go_enter Tryz.func160, Tryz.ntmps160
      go_wp2_with fail
      go_ret
      exact ⟨by rw [H.out]; rfl, rfl⟩
  · have h1' : ¬ (1 : Int) ≤ (s.size : Int) := by omega
    have d1 : decide ((1 : Int) ≤ (s.size : Int)) = false := by simp; omega
    have H : Hid (numB s = false) := by unfold Hid numB; simp [h1]
    go_enter Tryz.func160, Tryz.ntmps160
    go_wp2_with fail
    go_ret
    exact ⟨by rw [H.out]; rfl, rfl⟩

/-- The number that digits are. -/
def dval (l : List UInt8) : Nat := l.foldl (fun n c => n * 10 + (c.toNat - 48)) 0
theorem dval_snoc (l : List UInt8) (c : UInt8) : dval (l ++ [c]) = dval l * 10 + (c.toNat - 48) := by simp [dval]
theorem dval_lt (l : List UInt8) (h : ∀ c ∈ l, isDig c = true) : dval l < 10 ^ l.length := by
  obtain ⟨n, hn⟩ : ∃ n, l.length = n := ⟨_, rfl⟩
  induction n generalizing l with
  | zero => rw [List.length_eq_zero_iff.1 hn]; simp [dval]
  | succ n ih =>
    have hne : l ≠ [] := by intro e; rw [e] at hn; simp at hn
    have hl := List.dropLast_concat_getLast hne
    have h1 := ih l.dropLast (fun d hd => h d (List.dropLast_subset l hd)) (by rw [List.length_dropLast, hn]; rfl)
    have h2 := h _ (List.getLast_mem hne)
    unfold isDig at h2
    simp only [decide_eq_true_eq] at h2
    rw [List.length_dropLast, hn, Nat.add_sub_cancel] at h1
    rw [hn, ← hl, dval_snoc, Nat.pow_succ]
    omega


theorem bw_below (w : World) (e : TypeId) (s : ByteArray) : Below w.heap.size w (Lib.bytesWorld w e s) :=
  ⟨rfl, rfl, rfl, by rw [Lib.bytesWorld_size]; omega, fun j hj => Lib.bytesWorld_at_old w e s j hj⟩
theorem floatOfInt_nat (t : Nat) : floatOfInt .f64 (t : Int) = fl t := by
  unfold floatOfInt FloatKind.nearest FloatKind.encode fl
  show D.nearest _ _ _ = _
  rw [Int.natAbs_natCast, show decide ((t : Int) < 0) = false by simp]
theorem run_mul (x y r : Nat) (h : D.mul x y = some r) (w : World) : (binOp .mul 110 (.float .f64 x) (.float .f64 y)).run Tryz.prog w = .ok (.float .f64 r) w := run_float_arith w .mul 42 .f64 x y r h
theorem run_add (x y r : Nat) (h : D.add x y = some r) (w : World) : (binOp .add 110 (.float .f64 x) (.float .f64 y)).run Tryz.prog w = .ok (.float .f64 r) w := run_float_arith w .add 42 .f64 x y r h

theorem takeWhile_mem {p : UInt8 → Bool} : ∀ {l : List UInt8} {c : UInt8}, c ∈ l.takeWhile p → p c = true
  | [], c, h => by simp at h
  | a :: l, c, h => by
    rw [List.takeWhile_cons] at h
    split at h
    · rename_i ha
      rcases List.mem_cons.1 h with h | h
      · rw [h]; exact ha
      · exact takeWhile_mem h
    · simp at h
theorem numB_facts {s : ByteArray} (h : numB s = true) : 1 ≤ s.size ∧ s.size ≤ 15 ∧ ∀ c ∈ s.data.toList, isDig c = true := by
  unfold numB at h
  simp only [Bool.and_eq_true, decide_eq_true_eq, beq_iff_eq] at h
  refine ⟨h.1, h.2.1, fun c hc => ?_⟩
  have hl : (s.data.toList.takeWhile isDig).length = s.data.toList.length := by have := h.2.2; unfold lead at this; rw [this]; simp
  have he : s.data.toList.takeWhile isDig = s.data.toList := (List.takeWhile_prefix isDig).eq_of_length hl
  rw [← he] at hc
  exact takeWhile_mem hc

theorem hp_le {s p : ByteArray} (h : hp s p = true) : p.size ≤ s.size := by
  unfold hp at h; simp only [Bool.and_eq_true, decide_eq_true_eq] at h; exact h.1
/-- The word with the sign. -/
def sgw (neg : Bool) (x : Nat) : Nat := if neg then opp x else x
theorem sgw_mul {x : Nat} (h : nanB x = false) (hx : x < 18446744073709551616) : D.mul 4607182418800017408 x = some (sgw false x) ∧ D.mul 13830554455654793216 x = some (sgw true x) := by
  rw [mul_swap, mul_one' h hx, mul_swap, mul_mone h]; exact ⟨rfl, rfl⟩
theorem sgw_nan {x : Nat} (b : Bool) (h : nanB x = false) : cl (sgw b x) = sgw b x := by
  unfold cl
  cases b
  · show (if nanB x = true then _ else _) = x
    rw [h]; rfl
  · show (if nanB (opp x) = true then _ else opp x) = opp x
    have : nanB (opp x) = false := by
      unfold nanB opp at *
      rw [rg_word _ (rg_lt x)]; exact h
    rw [this]; rfl
set_option maxRecDepth 100000 in
set_option maxHeartbeats 1000000 in
theorem Of_num (s : ByteArray) (w : World) (hs : s.size ≤ 9223372036854775807) (h0 : hp s ⟨#[48, 120]⟩ = false) (h1 : hp s ⟨#[45]⟩ = false) (h2 : hp s ⟨#[43]⟩ = false) (h3 : numB s = true) :
    Calls Tryz.prog 114 #[.string s] w fun e w' => e = .returned (.tuple #[.int .u64 (sgw false (fl (dval s.data.toList))), .bool true]) ∧ Below w.heap.size w w' := by
  obtain ⟨n1, n15, hdg⟩ := numB_facts h3
  have i1 : (s.toList == [105, 110, 102]) = false := by
    rw [beq_eq_false_iff_ne]; intro e; rw [Lib.toList_data] at e; rw [e] at hdg; exact absurd (hdg 105 (by simp)) (by decide)
  have i2 : (s.toList == [110, 97, 110]) = false := by
    rw [beq_eq_false_iff_ne]; intro e; rw [Lib.toList_data] at e; rw [e] at hdg; exact absurd (hdg 110 (by simp)) (by decide)
  have H0 := Lib.hid h0
  have H1 := Lib.hid h1
  have H2 := Lib.hid h2
  have H3 := Lib.hid h3
  have HDG := Lib.hid hdg
  have hconv := Lib.run_convert_string_bytes (P := Tryz.prog) w 9 41 5 s Tryz.underlying9 Tryz.underlying41 Tryz.underlying5
  have HB := Lib.hid (bw_below w 5 s)
  have HC := Lib.hid (fun j hj => Lib.bytesWorld_cell w 5 s j hj)
  generalize Lib.bytesWorld w 5 s = W at *
  generalize grownCap w s.size 0 5 = C at *
  clear h0 h1 h2 h3 hdg
  have hb := run_bits
  go_enter Tryz.func114, Tryz.ntmps114
  go_wp2_with (first
    | (go_at_call 156; refine (CutPrefix_any s _ _).mono ?_; rw [H0.out]; rintro e w' ⟨rfl, rfl⟩)
    | (go_at_call 160; refine (Number_any s _ hs).mono ?_; rw [H3.out]; rintro e w' ⟨rfl, rfl⟩)
    | (go_at_call 41; (first | ((with_reducible refine (HasPrefix_any s ⟨#[45]⟩ _).mono ?_); rw [H1.out]) | ((with_reducible refine (HasPrefix_any s ⟨#[43]⟩ _).mono ?_); rw [H2.out])); rintro e w' ⟨rfl, rfl⟩))
  go_loop [7, 48] (fun a b => ∃ k : Nat, k ≤ s.size ∧ b = .int .i64 k ∧ a = .float .f64 (fl (dval (s.data.toList.take k)))) (fun _ b => s.size - (intOf b).toNat)
  case atStart => exact ⟨0, by omega, rfl, by rw [List.take_zero]; simp [dval, fl_zero]⟩
  case round =>
    obtain ⟨k, hk, rfl, rfl⟩ := hrel
    have hlen : (s.data.toList.take k).length = k := by simp; omega
    have hdv := dval_lt (s.data.toList.take k) (fun c hc => HDG.out c (List.mem_of_mem_take hc))
    rw [hlen] at hdv
    by_cases hlt : k < s.size
    · have hp : 10 ^ k ≤ 10 ^ 14 := Nat.pow_le_pow_right (by omega) (by omega)
      have hltI : (k : Int) < (s.size : Int) := by omega
      have hc := HC.out k hlt
      have hdig := HDG.out (gb s k) (by
        unfold gb
        rw [List.getD_eq_getElem?_getD, List.getElem?_eq_getElem (by simpa using hlt)]
        exact List.getElem_mem _)
      have hsn : s.data.toList.take (k + 1) = s.data.toList.take k ++ [gb s k] := by
        unfold gb
        rw [List.take_succ_eq_append_getElem (by simpa using hlt), List.getD_eq_getElem?_getD, List.getElem?_eq_getElem (by simpa using hlt)]; rfl
      have HN : Hid (dval (s.data.toList.take (k + 1)) = dval (s.data.toList.take k) * 10 + ((gb s k).toNat - 48)) := by unfold Hid; rw [hsn, dval_snoc]
      change W.cell? _ = some (.int .u8 (gb s k).toNat) at hc
      unfold isDig at hdig
      simp only [decide_eq_true_eq] at hdig
      generalize gb s k = c at *
      generalize dval (s.data.toList.take k) = t at *
      have ht : t < 100000000000000 := Nat.lt_of_lt_of_le hdv hp
      have hm := run_mul (fl t) (fl 10) _ (mul_fl (by omega) (by omega) (by omega))
      have hd := run_add (fl (t * 10)) (fl (c.toNat - 48)) _ (add_fl (by omega) (by omega) (by omega))
      rw [fl_ten] at hm
      have hcv := floatOfInt_nat (c.toNat - 48)
      have hw : IntKind.u8.wrap ((c.toNat : Int) - 48) = ((c.toNat - 48 : Nat) : Int) := by unfold IntKind.wrap; simp [IntKind.bits, IntKind.signed]; omega
      clear hsn hdv hp hlen ht hdig
      generalize c.toNat - 48 = d at *
      go_wp2_with fail
      exact ⟨⟨k + 1, by omega, by go_num, by rw [HN.out]⟩, by simp [intOf]; omega⟩
    · have hge : ¬ ((k : Int) < (s.size : Int)) := by omega
      have hkn : k = s.size := by omega
      have HT : Hid (dval (s.data.toList.take k) = dval s.data.toList) := by unfold Hid; rw [List.take_of_length_le (by simp; omega)]
      rw [HT.out] at hdv
      have hd2 : dval s.data.toList < 1000000000000000 := Nat.lt_of_lt_of_le hdv (Nat.pow_le_pow_right (n := 10) (by omega) (show k ≤ 15 by omega))
      have hnn := fl_nan (t := dval s.data.toList) (by omega)
      have hlt2 := fl_lt (t := dval s.data.toList) (by omega)
      have hm := run_mul 4607182418800017408 (fl (dval s.data.toList)) (sgw false (fl (dval s.data.toList))) (sgw_mul hnn (by omega)).1
      have HCL : Hid (cl (sgw false (fl (dval s.data.toList))) = sgw false (fl (dval s.data.toList))) := sgw_nan false hnn
      clear hdv hd2 hlt2 hnn hlen hkn
      rw [HT.out]
      obtain ⟨x, hx⟩ : ∃ x, fl (dval s.data.toList) = x := ⟨_, rfl⟩
      rw [hx] at hm HCL ⊢
      have HX := Lib.hid hx
      clear hx
      go_wp2_with (go_at_call 158; refine (bits_any _ _).mono ?_; rw [HCL.out]; rintro e w'' ⟨rfl, rfl⟩)
      go_ret2
      exact ⟨by rw [HX.out]; rfl, HB.out⟩

set_option maxRecDepth 100000 in
set_option maxHeartbeats 1000000 in
theorem Of_neg (s : ByteArray) (w : World) (hs : s.size ≤ 9223372036854775807) (h0 : hp s ⟨#[48, 120]⟩ = false) (h1 : hp s ⟨#[45]⟩ = true) (b : ByteArray) (hbe : s.extract 1 s.size = b) (h3 : numB b = true) :
    Calls Tryz.prog 114 #[.string s] w fun e w' => e = .returned (.tuple #[.int .u64 (sgw true (fl (dval b.data.toList))), .bool true]) ∧ Below w.heap.size w w' := by
  have hsz : 1 ≤ s.size := hp_le h1
  have hbs : b.size ≤ 9223372036854775807 := by rw [← hbe, ByteArray.size_extract]; omega
  obtain ⟨n1, n15, hdg⟩ := numB_facts h3
  have i1 : (b.toList == [105, 110, 102]) = false := by
    rw [beq_eq_false_iff_ne]; intro e; rw [Lib.toList_data] at e; rw [e] at hdg; exact absurd (hdg 105 (by simp)) (by decide)
  have i2 : (b.toList == [110, 97, 110]) = false := by
    rw [beq_eq_false_iff_ne]; intro e; rw [Lib.toList_data] at e; rw [e] at hdg; exact absurd (hdg 110 (by simp)) (by decide)
  have H0 := Lib.hid h0
  have H1 := Lib.hid h1
  have H3 := Lib.hid h3
  have HDG := Lib.hid hdg
  clear h0 h1 h3 hdg
  have hb := run_bits
  go_enter Tryz.func114, Tryz.ntmps114
  go_wp2_with (first
    | (go_at_call 156; refine (CutPrefix_any s _ _).mono ?_; rw [H0.out]; rintro e w' ⟨rfl, rfl⟩)
    | (go_at_call 160; refine (Number_any b _ hbs).mono ?_; rw [H3.out]; rintro e w' ⟨rfl, rfl⟩)
    | (go_at_call 41; refine (HasPrefix_any s ⟨#[45]⟩ _).mono ?_; rw [H1.out]; rintro e w' ⟨rfl, rfl⟩))
  go_quiet (fail)
  have HBq := Lib.hid (below_drewN (Below.refl w'.heap.size w') nq)
  have hzq : (w'.drewN nq).heap.size = w'.heap.size := rfl
  generalize w'.drewN nq = wq at *
  have hconv := Lib.run_convert_string_bytes (P := Tryz.prog) wq 9 41 5 b Tryz.underlying9 Tryz.underlying41 Tryz.underlying5
  have HB := Lib.hid (HBq.out.trans ((bw_below wq 5 b).mono (Nat.le_of_eq hzq.symm)))
  have HC := Lib.hid (fun j hj => Lib.bytesWorld_cell wq 5 b j hj)
  generalize Lib.bytesWorld wq 5 b = W at *
  generalize grownCap wq b.size 0 5 = C at *
  clear hzq
  go_wp2_with (first
    | (go_at_call 160; refine (Number_any b _ hbs).mono ?_; rw [H3.out]; rintro e w' ⟨rfl, rfl⟩))

  go_loop [7, 48] (fun a i => ∃ k : Nat, k ≤ b.size ∧ i = .int .i64 k ∧ a = .float .f64 (fl (dval (b.data.toList.take k)))) (fun _ i => b.size - (intOf i).toNat)
  case atStart => exact ⟨0, by omega, rfl, by rw [List.take_zero]; simp [dval, fl_zero]⟩
  case round =>
    obtain ⟨k, hk, rfl, rfl⟩ := hrel
    have hlen : (b.data.toList.take k).length = k := by simp; omega
    have hdv := dval_lt (b.data.toList.take k) (fun c hc => HDG.out c (List.mem_of_mem_take hc))
    rw [hlen] at hdv
    by_cases hlt : k < b.size
    · have hp : 10 ^ k ≤ 10 ^ 14 := Nat.pow_le_pow_right (by omega) (by omega)
      have hltI : (k : Int) < (b.size : Int) := by omega
      have hc := HC.out k hlt
      have hdig := HDG.out (gb b k) (by
        unfold gb
        rw [List.getD_eq_getElem?_getD, List.getElem?_eq_getElem (by simpa using hlt)]
        exact List.getElem_mem _)
      have hsn : b.data.toList.take (k + 1) = b.data.toList.take k ++ [gb b k] := by
        unfold gb
        rw [List.take_succ_eq_append_getElem (by simpa using hlt), List.getD_eq_getElem?_getD, List.getElem?_eq_getElem (by simpa using hlt)]; rfl
      have HN : Hid (dval (b.data.toList.take (k + 1)) = dval (b.data.toList.take k) * 10 + ((gb b k).toNat - 48)) := by unfold Hid; rw [hsn, dval_snoc]
      change W.cell? _ = some (.int .u8 (gb b k).toNat) at hc
      unfold isDig at hdig
      simp only [decide_eq_true_eq] at hdig
      generalize gb b k = c at *
      generalize dval (b.data.toList.take k) = t at *
      have ht : t < 100000000000000 := Nat.lt_of_lt_of_le hdv hp
      have hm := run_mul (fl t) (fl 10) _ (mul_fl (by omega) (by omega) (by omega))
      have hd := run_add (fl (t * 10)) (fl (c.toNat - 48)) _ (add_fl (by omega) (by omega) (by omega))
      rw [fl_ten] at hm
      have hcv := floatOfInt_nat (c.toNat - 48)
      have hw : IntKind.u8.wrap ((c.toNat : Int) - 48) = ((c.toNat - 48 : Nat) : Int) := by unfold IntKind.wrap; simp [IntKind.bits, IntKind.signed]; omega
      clear hsn hdv hp hlen ht hdig
      generalize c.toNat - 48 = d at *
      go_wp2_with fail
      exact ⟨⟨k + 1, by omega, by go_num, by rw [HN.out]⟩, by simp [intOf]; omega⟩
    · have hge : ¬ ((k : Int) < (b.size : Int)) := by omega
      have hkn : k = b.size := by omega
      have HT : Hid (dval (b.data.toList.take k) = dval b.data.toList) := by unfold Hid; rw [List.take_of_length_le (by simp; omega)]
      rw [HT.out] at hdv
      have hd2 : dval b.data.toList < 1000000000000000 := Nat.lt_of_lt_of_le hdv (Nat.pow_le_pow_right (n := 10) (by omega) (show k ≤ 15 by omega))
      have hnn := fl_nan (t := dval b.data.toList) (by omega)
      have hlt2 := fl_lt (t := dval b.data.toList) (by omega)
      have hm := run_mul 13830554455654793216 (fl (dval b.data.toList)) (sgw true (fl (dval b.data.toList))) (sgw_mul hnn (by omega)).2
      have HCL : Hid (cl (sgw true (fl (dval b.data.toList))) = sgw true (fl (dval b.data.toList))) := sgw_nan true hnn
      clear hdv hd2 hlt2 hnn hlen hkn
      rw [HT.out]
      obtain ⟨x, hx⟩ : ∃ x, fl (dval b.data.toList) = x := ⟨_, rfl⟩
      rw [hx] at hm HCL ⊢
      have HX := Lib.hid hx
      clear hx
      go_wp2_with (go_at_call 158; refine (bits_any _ _).mono ?_; rw [HCL.out]; rintro e w'' ⟨rfl, rfl⟩)
      go_ret2
      exact ⟨by rw [HX.out]; rfl, HB.out⟩

set_option maxRecDepth 100000 in
set_option maxHeartbeats 1000000 in
theorem Of_pos (s : ByteArray) (w : World) (hs : s.size ≤ 9223372036854775807) (h0 : hp s ⟨#[48, 120]⟩ = false) (h1 : hp s ⟨#[45]⟩ = false) (h2 : hp s ⟨#[43]⟩ = true) (b : ByteArray) (hbe : s.extract 1 s.size = b) (h3 : numB b = true) :
    Calls Tryz.prog 114 #[.string s] w fun e w' => e = .returned (.tuple #[.int .u64 (sgw false (fl (dval b.data.toList))), .bool true]) ∧ Below w.heap.size w w' := by
  have hsz : 1 ≤ s.size := hp_le h2
  have hbs : b.size ≤ 9223372036854775807 := by rw [← hbe, ByteArray.size_extract]; omega
  obtain ⟨n1, n15, hdg⟩ := numB_facts h3
  have i1 : (b.toList == [105, 110, 102]) = false := by
    rw [beq_eq_false_iff_ne]; intro e; rw [Lib.toList_data] at e; rw [e] at hdg; exact absurd (hdg 105 (by simp)) (by decide)
  have i2 : (b.toList == [110, 97, 110]) = false := by
    rw [beq_eq_false_iff_ne]; intro e; rw [Lib.toList_data] at e; rw [e] at hdg; exact absurd (hdg 110 (by simp)) (by decide)
  have H0 := Lib.hid h0
  have H1 := Lib.hid h1
  have H2 := Lib.hid h2
  have H3 := Lib.hid h3
  have HDG := Lib.hid hdg
  have hconv := Lib.run_convert_string_bytes (P := Tryz.prog) w 9 41 5 b Tryz.underlying9 Tryz.underlying41 Tryz.underlying5
  have HB := Lib.hid (bw_below w 5 b)
  have HC := Lib.hid (fun j hj => Lib.bytesWorld_cell w 5 b j hj)
  generalize Lib.bytesWorld w 5 b = W at *
  generalize grownCap w b.size 0 5 = C at *
  clear h0 h1 h2 h3 hdg
  have hb := run_bits
  go_enter Tryz.func114, Tryz.ntmps114
  go_wp2_with (first
    | (go_at_call 156; refine (CutPrefix_any s _ _).mono ?_; rw [H0.out]; rintro e w' ⟨rfl, rfl⟩)
    | (go_at_call 160; refine (Number_any b _ hbs).mono ?_; rw [H3.out]; rintro e w' ⟨rfl, rfl⟩)
    | (go_at_call 41; (first | ((with_reducible refine (HasPrefix_any s ⟨#[45]⟩ _).mono ?_); rw [H1.out]) | ((with_reducible refine (HasPrefix_any s ⟨#[43]⟩ _).mono ?_); rw [H2.out])); rintro e w' ⟨rfl, rfl⟩))
  go_loop [7, 48] (fun a i => ∃ k : Nat, k ≤ b.size ∧ i = .int .i64 k ∧ a = .float .f64 (fl (dval (b.data.toList.take k)))) (fun _ i => b.size - (intOf i).toNat)
  case atStart => exact ⟨0, by omega, rfl, by rw [List.take_zero]; simp [dval, fl_zero]⟩
  case round =>
    obtain ⟨k, hk, rfl, rfl⟩ := hrel
    have hlen : (b.data.toList.take k).length = k := by simp; omega
    have hdv := dval_lt (b.data.toList.take k) (fun c hc => HDG.out c (List.mem_of_mem_take hc))
    rw [hlen] at hdv
    by_cases hlt : k < b.size
    · have hp : 10 ^ k ≤ 10 ^ 14 := Nat.pow_le_pow_right (by omega) (by omega)
      have hltI : (k : Int) < (b.size : Int) := by omega
      have hc := HC.out k hlt
      have hdig := HDG.out (gb b k) (by
        unfold gb
        rw [List.getD_eq_getElem?_getD, List.getElem?_eq_getElem (by simpa using hlt)]
        exact List.getElem_mem _)
      have hsn : b.data.toList.take (k + 1) = b.data.toList.take k ++ [gb b k] := by
        unfold gb
        rw [List.take_succ_eq_append_getElem (by simpa using hlt), List.getD_eq_getElem?_getD, List.getElem?_eq_getElem (by simpa using hlt)]; rfl
      have HN : Hid (dval (b.data.toList.take (k + 1)) = dval (b.data.toList.take k) * 10 + ((gb b k).toNat - 48)) := by unfold Hid; rw [hsn, dval_snoc]
      change W.cell? _ = some (.int .u8 (gb b k).toNat) at hc
      unfold isDig at hdig
      simp only [decide_eq_true_eq] at hdig
      generalize gb b k = c at *
      generalize dval (b.data.toList.take k) = t at *
      have ht : t < 100000000000000 := Nat.lt_of_lt_of_le hdv hp
      have hm := run_mul (fl t) (fl 10) _ (mul_fl (by omega) (by omega) (by omega))
      have hd := run_add (fl (t * 10)) (fl (c.toNat - 48)) _ (add_fl (by omega) (by omega) (by omega))
      rw [fl_ten] at hm
      have hcv := floatOfInt_nat (c.toNat - 48)
      have hw : IntKind.u8.wrap ((c.toNat : Int) - 48) = ((c.toNat - 48 : Nat) : Int) := by unfold IntKind.wrap; simp [IntKind.bits, IntKind.signed]; omega
      clear hsn hdv hp hlen ht hdig
      generalize c.toNat - 48 = d at *
      go_wp2_with fail
      exact ⟨⟨k + 1, by omega, by go_num, by rw [HN.out]⟩, by simp [intOf]; omega⟩
    · have hge : ¬ ((k : Int) < (b.size : Int)) := by omega
      have hkn : k = b.size := by omega
      have HT : Hid (dval (b.data.toList.take k) = dval b.data.toList) := by unfold Hid; rw [List.take_of_length_le (by simp; omega)]
      rw [HT.out] at hdv
      have hd2 : dval b.data.toList < 1000000000000000 := Nat.lt_of_lt_of_le hdv (Nat.pow_le_pow_right (n := 10) (by omega) (show k ≤ 15 by omega))
      have hnn := fl_nan (t := dval b.data.toList) (by omega)
      have hlt2 := fl_lt (t := dval b.data.toList) (by omega)
      have hm := run_mul 4607182418800017408 (fl (dval b.data.toList)) (sgw false (fl (dval b.data.toList))) (sgw_mul hnn (by omega)).1
      have HCL : Hid (cl (sgw false (fl (dval b.data.toList))) = sgw false (fl (dval b.data.toList))) := sgw_nan false hnn
      clear hdv hd2 hlt2 hnn hlen hkn
      rw [HT.out]
      obtain ⟨x, hx⟩ : ∃ x, fl (dval b.data.toList) = x := ⟨_, rfl⟩
      rw [hx] at hm HCL ⊢
      have HX := Lib.hid hx
      clear hx
      go_wp2_with (go_at_call 158; refine (bits_any _ _).mono ?_; rw [HCL.out]; rintro e w'' ⟨rfl, rfl⟩)
      go_ret2
      exact ⟨by rw [HX.out]; rfl, HB.out⟩

end Go.Proofs.YtcmjpkfinbakkaaGreatDoor.Fl
