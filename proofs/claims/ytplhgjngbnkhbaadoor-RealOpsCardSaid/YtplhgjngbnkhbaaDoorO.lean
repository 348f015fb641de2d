import Derived.Test.YtplhgjngbnkhbaaDoorM
import Derived.Lib.Strings
namespace Go.Proofs.YtplhgjngbnkhbaaDoor
open Go.RowKit

theorem str_of {s : ByteArray} {l : List UInt8} (h : s.data.toList = l) : s = ⟨l.toArray⟩ := by
  cases s; congr; rw [← h]

/-- What an operator makes of two; none: it is no operator. -/
def opV (l : List UInt8) (a b : Nat) : Option Nat :=
  if l = [43] then some (fo (D.add a b)) else
  if l = [45] then some (fo (D.sub a b)) else
  if l = [42] then some (fo (D.mul a b)) else
  if l = [47] then some (fo (D.div a b)) else
  if l = [109, 105, 110] then some (fo (fmin a b)) else
  if l = [109, 97, 120] then some (fo (fmax a b)) else
  none

def isV (l : List UInt8) (a b : Nat) : Option Bool :=
  if l = [108, 116] then some (D.order a b == some .lt) else
  if l = [108, 101] then some (D.order a b == some .lt || D.order a b == some .eq) else
  if l = [103, 116] then some (D.order a b == some .gt) else
  if l = [103, 101] then some (D.order a b == some .gt || D.order a b == some .eq) else
  if l = [101, 113] then some (D.order a b == some .eq) else
  if l = [110, 101] then some (D.order a b != some .eq) else
  if l = [115, 97, 109, 101] then some (cl a == cl b) else
  none

set_option maxRecDepth 100000 in
set_option maxHeartbeats 1000000 in
theorem Op_none (op : ByteArray) (a b : Nat) (w : World) (h0 : (op.toList == [43]) = false) (h1 : (op.toList == [45]) = false) (h2 : (op.toList == [42]) = false) (h3 : (op.toList == [47]) = false) (h4 : (op.toList == [109, 105, 110]) = false) (h5 : (op.toList == [109, 97, 120]) = false) :
    Calls Tryd.prog 18 #[.string op, .int .u64 a, .int .u64 b] w fun e w' => e = .returned (.tuple #[.int .u64 0, .bool false]) ∧ w' = w := by
  have hf := run_from
  go_enter Tryd.func18, Tryd.ntmps18
  go_wp2
  go_ret2
  exact ⟨by rfl, rfl⟩

set_option maxRecDepth 100000 in
set_option maxHeartbeats 1000000 in
theorem Ref_none (op : ByteArray) (a b : Nat) (w : World) (h0 : (op.toList == [43]) = false) (h1 : (op.toList == [45]) = false) (h2 : (op.toList == [42]) = false) (h3 : (op.toList == [47]) = false) (h4 : (op.toList == [109, 105, 110]) = false) (h5 : (op.toList == [109, 97, 120]) = false) :
    Calls Tryd.prog 19 #[.string op, .int .u64 a, .int .u64 b] w fun e w' => e = .returned (.tuple #[.int .u64 0, .bool false]) ∧ w' = w := by
  have hf := run_from
  go_enter Tryd.func19, Tryd.ntmps19
  go_wp2
  go_ret2
  exact ⟨by rfl, rfl⟩

set_option maxRecDepth 100000 in
set_option maxHeartbeats 1000000 in
theorem RIs_lt (a b : Nat) (w : World) :
    Calls Tryd.prog 21 #[.string ⟨#[108, 116]⟩, .int .u64 a, .int .u64 b] w fun e w' => e = .returned (.tuple #[.bool (D.order a b == some .lt), .bool true]) ∧ w' = w := by
  have hf := run_from
  go_enter Tryd.func21, Tryd.ntmps21
  go_wp2
  go_ret2
  exact ⟨by rfl, rfl⟩

set_option maxRecDepth 100000 in
set_option maxHeartbeats 1000000 in
theorem RIs_le (a b : Nat) (w : World) :
    Calls Tryd.prog 21 #[.string ⟨#[108, 101]⟩, .int .u64 a, .int .u64 b] w fun e w' => e = .returned (.tuple #[.bool (D.order a b == some .lt || D.order a b == some .eq), .bool true]) ∧ w' = w := by
  have hf := run_from
  go_enter Tryd.func21, Tryd.ntmps21
  go_wp2
  go_ret2
  exact ⟨by rfl, rfl⟩

set_option maxRecDepth 100000 in
set_option maxHeartbeats 1000000 in
theorem RIs_gt (a b : Nat) (w : World) :
    Calls Tryd.prog 21 #[.string ⟨#[103, 116]⟩, .int .u64 a, .int .u64 b] w fun e w' => e = .returned (.tuple #[.bool (D.order a b == some .gt), .bool true]) ∧ w' = w := by
  have hf := run_from
  go_enter Tryd.func21, Tryd.ntmps21
  go_wp2
  go_ret2
  exact ⟨by rfl, rfl⟩

set_option maxRecDepth 100000 in
set_option maxHeartbeats 1000000 in
theorem RIs_ge (a b : Nat) (w : World) :
    Calls Tryd.prog 21 #[.string ⟨#[103, 101]⟩, .int .u64 a, .int .u64 b] w fun e w' => e = .returned (.tuple #[.bool (D.order a b == some .gt || D.order a b == some .eq), .bool true]) ∧ w' = w := by
  have hf := run_from
  go_enter Tryd.func21, Tryd.ntmps21
  go_wp2
  go_ret2
  exact ⟨by rfl, rfl⟩

set_option maxRecDepth 100000 in
set_option maxHeartbeats 1000000 in
theorem RIs_eq (a b : Nat) (w : World) :
    Calls Tryd.prog 21 #[.string ⟨#[101, 113]⟩, .int .u64 a, .int .u64 b] w fun e w' => e = .returned (.tuple #[.bool (D.order a b == some .eq), .bool true]) ∧ w' = w := by
  have hf := run_from
  go_enter Tryd.func21, Tryd.ntmps21
  go_wp2
  go_ret2
  exact ⟨by rfl, rfl⟩

set_option maxRecDepth 100000 in
set_option maxHeartbeats 1000000 in
theorem RIs_ne (a b : Nat) (w : World) :
    Calls Tryd.prog 21 #[.string ⟨#[110, 101]⟩, .int .u64 a, .int .u64 b] w fun e w' => e = .returned (.tuple #[.bool (D.order a b != some .eq), .bool true]) ∧ w' = w := by
  have hf := run_from
  go_enter Tryd.func21, Tryd.ntmps21
  go_wp2
  go_ret2
  exact ⟨by rfl, rfl⟩

set_option maxRecDepth 100000 in
set_option maxHeartbeats 1000000 in
theorem RIs_same (a b : Nat) (w : World) :
    Calls Tryd.prog 21 #[.string ⟨#[115, 97, 109, 101]⟩, .int .u64 a, .int .u64 b] w fun e w' => e = .returned (.tuple #[.bool (cl a == cl b), .bool true]) ∧ w' = w := by
  have hf := run_from
  have H : Hid (((cl a : Int) == (cl b : Int)) = (cl a == cl b)) := by unfold Hid; rw [Bool.eq_iff_iff]; simp; omega
  go_enter Tryd.func21, Tryd.ntmps21
  go_wp2_with (go_at_call 32; refine (clean_any _ _).mono ?_; rintro e w' ⟨rfl, rfl⟩)
  go_ret2
  exact ⟨by rw [← H.out]; rfl, rfl⟩

set_option maxRecDepth 100000 in
set_option maxHeartbeats 1000000 in
theorem Is_none (op : ByteArray) (a b : Nat) (w : World) (h0 : (op.toList == [108, 116]) = false) (h1 : (op.toList == [108, 101]) = false) (h2 : (op.toList == [103, 116]) = false) (h3 : (op.toList == [103, 101]) = false) (h4 : (op.toList == [101, 113]) = false) (h5 : (op.toList == [110, 101]) = false) (h6 : (op.toList == [115, 97, 109, 101]) = false) :
    Calls Tryd.prog 20 #[.string op, .int .u64 a, .int .u64 b] w fun e w' => e = .returned (.tuple #[.bool false, .bool false]) ∧ w' = w := by
  have hf := run_from
  go_enter Tryd.func20, Tryd.ntmps20
  go_wp2
  go_ret2
  exact ⟨by rfl, rfl⟩

set_option maxRecDepth 100000 in
set_option maxHeartbeats 1000000 in
theorem RIs_none (op : ByteArray) (a b : Nat) (w : World) (h0 : (op.toList == [108, 116]) = false) (h1 : (op.toList == [108, 101]) = false) (h2 : (op.toList == [103, 116]) = false) (h3 : (op.toList == [103, 101]) = false) (h4 : (op.toList == [101, 113]) = false) (h5 : (op.toList == [110, 101]) = false) (h6 : (op.toList == [115, 97, 109, 101]) = false) :
    Calls Tryd.prog 21 #[.string op, .int .u64 a, .int .u64 b] w fun e w' => e = .returned (.tuple #[.bool false, .bool false]) ∧ w' = w := by
  have hf := run_from
  go_enter Tryd.func21, Tryd.ntmps21
  go_wp2
  go_ret2
  exact ⟨by rfl, rfl⟩

theorem ne_of {op : ByteArray} {l : List UInt8} (h : ¬ op.data.toList = l) : (op.toList == l) = false := by rw [beq_eq_false_iff_ne, Lib.toList_data]; exact h

theorem Op_all (op : ByteArray) (a b : Nat) (ha : a < 18446744073709551616) (hb : b < 18446744073709551616) (w : World) :
    Calls Tryd.prog 18 #[.string op, .int .u64 a, .int .u64 b] w fun e w' => e = .returned (.tuple #[.int .u64 ((opV op.data.toList a b).getD 0), .bool (opV op.data.toList a b).isSome]) ∧ ∃ n, w' = w.drewN n := by
  unfold opV
  by_cases h0 : op.data.toList = [43]
  · rw [if_pos h0, str_of h0]
    exact Op_add a b w
  rw [if_neg h0]
  by_cases h1 : op.data.toList = [45]
  · rw [if_pos h1, str_of h1]
    exact Op_sub a b w
  rw [if_neg h1]
  by_cases h2 : op.data.toList = [42]
  · rw [if_pos h2, str_of h2]
    exact Op_mul a b w
  rw [if_neg h2]
  by_cases h3 : op.data.toList = [47]
  · rw [if_pos h3, str_of h3]
    exact Op_div a b w
  rw [if_neg h3]
  by_cases h4 : op.data.toList = [109, 105, 110]
  · rw [if_pos h4, str_of h4]
    exact Op_min a b w
  rw [if_neg h4]
  by_cases h5 : op.data.toList = [109, 97, 120]
  · rw [if_pos h5, str_of h5]
    exact Op_max a b w
  rw [if_neg h5]
  exact (Op_none op a b w (ne_of h0) (ne_of h1) (ne_of h2) (ne_of h3) (ne_of h4) (ne_of h5)).mono fun e w' ⟨he, hw⟩ => ⟨he, 0, hw⟩

theorem Ref_all (op : ByteArray) (a b : Nat) (ha : a < 18446744073709551616) (hb : b < 18446744073709551616) (w : World) :
    Calls Tryd.prog 19 #[.string op, .int .u64 a, .int .u64 b] w fun e w' => e = .returned (.tuple #[.int .u64 ((opV op.data.toList a b).getD 0), .bool (opV op.data.toList a b).isSome]) ∧ ∃ n, w' = w.drewN n := by
  unfold opV
  by_cases h0 : op.data.toList = [43]
  · rw [if_pos h0, str_of h0]
    exact Ref_add a b w
  rw [if_neg h0]
  by_cases h1 : op.data.toList = [45]
  · rw [if_pos h1, str_of h1]
    exact Ref_sub a b w
  rw [if_neg h1]
  by_cases h2 : op.data.toList = [42]
  · rw [if_pos h2, str_of h2]
    exact Ref_mul a b w
  rw [if_neg h2]
  by_cases h3 : op.data.toList = [47]
  · rw [if_pos h3, str_of h3]
    exact Ref_div a b w
  rw [if_neg h3]
  by_cases h4 : op.data.toList = [109, 105, 110]
  · rw [if_pos h4, str_of h4]
    by_cases hn : (nanB a || nanB b) = true
    · exact Ref_min_nan a b ha hb w hn
    · rcases order_cases (by simpa using hn) with h | h | h
      · exact Ref_min_lt a b ha hb w h
      · cases h1 : sg a <;> cases h2 : sg b
        · exact Ref_min_eqs a b ha hb w h (by rw [h1, h2])
        · exact Ref_min_eq01 a b ha hb w h h1 h2
        · exact Ref_min_eq10 a b ha hb w h h1 h2
        · exact Ref_min_eqs a b ha hb w h (by rw [h1, h2])
      · exact Ref_min_gt a b ha hb w h
  rw [if_neg h4]
  by_cases h5 : op.data.toList = [109, 97, 120]
  · rw [if_pos h5, str_of h5]
    by_cases hn : (nanB a || nanB b) = true
    · exact Ref_max_nan a b ha hb w hn
    · rcases order_cases (by simpa using hn) with h | h | h
      · exact Ref_max_lt a b ha hb w h
      · cases h1 : sg a <;> cases h2 : sg b
        · exact Ref_max_eqs a b ha hb w h (by rw [h1, h2])
        · exact Ref_max_eq01 a b ha hb w h h1 h2
        · exact Ref_max_eq10 a b ha hb w h h1 h2
        · exact Ref_max_eqs a b ha hb w h (by rw [h1, h2])
      · exact Ref_max_gt a b ha hb w h
  rw [if_neg h5]
  exact (Ref_none op a b w (ne_of h0) (ne_of h1) (ne_of h2) (ne_of h3) (ne_of h4) (ne_of h5)).mono fun e w' ⟨he, hw⟩ => ⟨he, 0, hw⟩

theorem Is_all (op : ByteArray) (a b : Nat) (w : World) :
    Calls Tryd.prog 20 #[.string op, .int .u64 a, .int .u64 b] w fun e w' => e = .returned (.tuple #[.bool ((isV op.data.toList a b).getD false), .bool (isV op.data.toList a b).isSome]) ∧ w' = w := by
  unfold isV
  by_cases h0 : op.data.toList = [108, 116]
  · rw [if_pos h0, str_of h0]
    exact Is_lt a b w
  rw [if_neg h0]
  by_cases h1 : op.data.toList = [108, 101]
  · rw [if_pos h1, str_of h1]
    exact Is_le a b w
  rw [if_neg h1]
  by_cases h2 : op.data.toList = [103, 116]
  · rw [if_pos h2, str_of h2]
    exact Is_gt a b w
  rw [if_neg h2]
  by_cases h3 : op.data.toList = [103, 101]
  · rw [if_pos h3, str_of h3]
    exact Is_ge a b w
  rw [if_neg h3]
  by_cases h4 : op.data.toList = [101, 113]
  · rw [if_pos h4, str_of h4]
    exact Is_eq a b w
  rw [if_neg h4]
  by_cases h5 : op.data.toList = [110, 101]
  · rw [if_pos h5, str_of h5]
    exact Is_ne a b w
  rw [if_neg h5]
  by_cases h6 : op.data.toList = [115, 97, 109, 101]
  · rw [if_pos h6, str_of h6]
    exact Is_same a b w
  rw [if_neg h6]
  exact Is_none op a b w (ne_of h0) (ne_of h1) (ne_of h2) (ne_of h3) (ne_of h4) (ne_of h5) (ne_of h6)

theorem RIs_all (op : ByteArray) (a b : Nat) (w : World) :
    Calls Tryd.prog 21 #[.string op, .int .u64 a, .int .u64 b] w fun e w' => e = .returned (.tuple #[.bool ((isV op.data.toList a b).getD false), .bool (isV op.data.toList a b).isSome]) ∧ w' = w := by
  unfold isV
  by_cases h0 : op.data.toList = [108, 116]
  · rw [if_pos h0, str_of h0]
    exact RIs_lt a b w
  rw [if_neg h0]
  by_cases h1 : op.data.toList = [108, 101]
  · rw [if_pos h1, str_of h1]
    exact RIs_le a b w
  rw [if_neg h1]
  by_cases h2 : op.data.toList = [103, 116]
  · rw [if_pos h2, str_of h2]
    exact RIs_gt a b w
  rw [if_neg h2]
  by_cases h3 : op.data.toList = [103, 101]
  · rw [if_pos h3, str_of h3]
    exact RIs_ge a b w
  rw [if_neg h3]
  by_cases h4 : op.data.toList = [101, 113]
  · rw [if_pos h4, str_of h4]
    exact RIs_eq a b w
  rw [if_neg h4]
  by_cases h5 : op.data.toList = [110, 101]
  · rw [if_pos h5, str_of h5]
    exact RIs_ne a b w
  rw [if_neg h5]
  by_cases h6 : op.data.toList = [115, 97, 109, 101]
  · rw [if_pos h6, str_of h6]
    exact RIs_same a b w
  rw [if_neg h6]
  exact RIs_none op a b w (ne_of h0) (ne_of h1) (ne_of h2) (ne_of h3) (ne_of h4) (ne_of h5) (ne_of h6)

set_option maxRecDepth 100000 in
set_option maxHeartbeats 4000000 in
theorem ops_walk (op : ByteArray) (x y : Int) (_wo : op.size ≤ maxLen) (wx : (Lit.int .u64 x).wf = true) (wy : (Lit.int .u64 y).wf = true) (w : World) : Calls Tryd.prog 5 #[.string op, .int .u64 x, .int .u64 y] w fun e w' => e = .returned (.bool true) ∧ Below w.heap.size w w' := by
  obtain ⟨a, rfl, ha⟩ := u64_nat wx
  obtain ⟨b, rfl, hb⟩ := u64_nat wy
  clear wx wy
  by_cases hl : op.size ≤ 10
  · have hl' : ¬ (10 : Int) < (op.size : Int) := by omega
    have hld : decide ((op.size : Int) > 10) = false := by simp; omega
    go_enter Tryd.func5, Tryd.ntmps5
    go_wp2_with fail
    refine (alive_any _).mono ?_
    rintro e w1 ⟨rfl, hB1⟩
    have HB := Lib.hid hB1
    clear hB1
    go_wp2_with fail
    refine (Op_all op a b ha hb _).mono ?_
    rintro e w' ⟨rfl, n1, rfl⟩
    go_wp2_with fail
    refine (Ref_all op a b ha hb _).mono ?_
    rintro e w' ⟨rfl, n2, rfl⟩
    generalize (opV op.data.toList a b).getD 0 = v
    generalize (opV op.data.toList a b).isSome = vb
    go_wp2_with fail
    refine (Is_all op a b _).mono ?_
    rintro e w' ⟨rfl, rfl⟩
    go_wp2_with fail
    refine (RIs_all op a b _).mono ?_
    rintro e w' ⟨rfl, rfl⟩
    generalize (isV op.data.toList a b).getD false = u
    generalize (isV op.data.toList a b).isSome = ub
    cases vb <;> cases u <;> cases ub <;> go_wp2_with fail
    all_goals
      go_ret
      exact ⟨rfl, below_trans HB.out (below_drew ⟨_, rfl⟩)⟩
  · have hl' : (10 : Int) < (op.size : Int) := by omega
    go_enter Tryd.func5, Tryd.ntmps5
    go_wp2_with (go_at_call 13; refine (alive_any _).mono ?_; rintro e w1 ⟨rfl, hB1⟩)
    go_ret
    exact ⟨rfl, hB1⟩
end Go.Proofs.YtplhgjngbnkhbaaDoor
