import Derived.Test.YthgddbdkdloobaaDoorE
namespace Go.Proofs.YthgddbdkdloobaaDoor
open Go.RowKit
set_option linter.unusedVariables false

set_option maxHeartbeats 1000000 in
theorem holds_0 (a b : Int) (w : World) : Calls Tryd.prog 42 #[.string ⟨#[124, 124]⟩, .int .i64 a, .int .i64 b] w fun e w' => e = .returned (.bool (a != 0 || b != 0)) ∧ w' = w := by
  obtain ⟨p, hp⟩ : ∃ p, (a == 0) = p := ⟨_, rfl⟩
  obtain ⟨q, hq⟩ : ∃ q, (b == 0) = q := ⟨_, rfl⟩
  rw [bne_int, bne_int, hp, hq]
  have hp' : (a != 0) = !p := by rw [bne_int, hp]
  have hq' : (b != 0) = !q := by rw [bne_int, hq]
  cases p <;> cases q
  all_goals
    go_enter Tryd.func42, Tryd.ntmps42
    go_wp2_with fail
    go_ret
    exact ⟨rfl, rfl⟩
set_option maxHeartbeats 1000000 in
theorem holds_1 (a b : Int) (w : World) : Calls Tryd.prog 42 #[.string ⟨#[38, 38]⟩, .int .i64 a, .int .i64 b] w fun e w' => e = .returned (.bool (a != 0 && b != 0)) ∧ w' = w := by
  obtain ⟨p, hp⟩ : ∃ p, (a == 0) = p := ⟨_, rfl⟩
  obtain ⟨q, hq⟩ : ∃ q, (b == 0) = q := ⟨_, rfl⟩
  rw [bne_int, bne_int, hp, hq]
  have hp' : (a != 0) = !p := by rw [bne_int, hp]
  have hq' : (b != 0) = !q := by rw [bne_int, hq]
  cases p <;> cases q
  all_goals
    go_enter Tryd.func42, Tryd.ntmps42
    go_wp2_with fail
    go_ret
    exact ⟨rfl, rfl⟩
set_option maxHeartbeats 1000000 in
theorem holds_2 (a b : Int) (w : World) : Calls Tryd.prog 42 #[.string ⟨#[61, 61]⟩, .int .i64 a, .int .i64 b] w fun e w' => e = .returned (.bool (a == b)) ∧ w' = w := by
  obtain ⟨p, hp⟩ : ∃ p, (a == b) = p := ⟨_, rfl⟩
  rw [hp]
  go_enter Tryd.func42, Tryd.ntmps42
  go_wp2_with fail
  go_ret
  exact ⟨rfl, rfl⟩
set_option maxHeartbeats 1000000 in
theorem holds_3 (a b : Int) (w : World) : Calls Tryd.prog 42 #[.string ⟨#[33, 61]⟩, .int .i64 a, .int .i64 b] w fun e w' => e = .returned (.bool (a != b)) ∧ w' = w := by
  obtain ⟨p, hp⟩ : ∃ p, (a == b) = p := ⟨_, rfl⟩
  rw [bne_int, hp]
  have hp' : (a != b) = !p := by rw [bne_int, hp]
  go_enter Tryd.func42, Tryd.ntmps42
  go_wp2_with fail
  go_ret
  exact ⟨rfl, rfl⟩
set_option maxHeartbeats 1000000 in
theorem holds_4 (a b : Int) (w : World) : Calls Tryd.prog 42 #[.string ⟨#[60]⟩, .int .i64 a, .int .i64 b] w fun e w' => e = .returned (.bool (decide (a < b))) ∧ w' = w := by
  obtain ⟨p, hp⟩ : ∃ p, (decide (a < b)) = p := ⟨_, rfl⟩
  rw [hp]
  go_enter Tryd.func42, Tryd.ntmps42
  go_wp2_with fail
  go_ret
  exact ⟨rfl, rfl⟩
set_option maxHeartbeats 1000000 in
theorem holds_5 (a b : Int) (w : World) : Calls Tryd.prog 42 #[.string ⟨#[60, 61]⟩, .int .i64 a, .int .i64 b] w fun e w' => e = .returned (.bool (decide (a ≤ b))) ∧ w' = w := by
  obtain ⟨p, hp⟩ : ∃ p, (decide (a ≤ b)) = p := ⟨_, rfl⟩
  rw [hp]
  go_enter Tryd.func42, Tryd.ntmps42
  go_wp2_with fail
  go_ret
  exact ⟨rfl, rfl⟩
set_option maxHeartbeats 1000000 in
theorem holds_6 (a b : Int) (w : World) : Calls Tryd.prog 42 #[.string ⟨#[62]⟩, .int .i64 a, .int .i64 b] w fun e w' => e = .returned (.bool (decide (b < a))) ∧ w' = w := by
  obtain ⟨p, hp⟩ : ∃ p, (decide (b < a)) = p := ⟨_, rfl⟩
  rw [hp]
  go_enter Tryd.func42, Tryd.ntmps42
  go_wp2_with fail
  go_ret
  exact ⟨rfl, rfl⟩
set_option maxHeartbeats 1000000 in
theorem holds_7 (a b : Int) (w : World) : Calls Tryd.prog 42 #[.string ⟨#[62, 61]⟩, .int .i64 a, .int .i64 b] w fun e w' => e = .returned (.bool (decide (b ≤ a))) ∧ w' = w := by
  obtain ⟨p, hp⟩ : ∃ p, (decide (b ≤ a)) = p := ⟨_, rfl⟩
  rw [hp]
  go_enter Tryd.func42, Tryd.ntmps42
  go_wp2_with fail
  go_ret
  exact ⟨rfl, rfl⟩
set_option maxHeartbeats 1000000 in
theorem divide_0 (a b : Int) (B : Nat) (w : World) (z : Bool) (hc : w.cell? ⟨B, 4, none⟩ = some (.bool z)) (hf : w.frozen? ⟨B, 4, none⟩ = false) : Calls Tryd.prog 40 #[.pointer (some ⟨B, 0, none⟩), .string ⟨#[47]⟩, .int .i64 a, .int .i64 b] w fun e w' => e = .returned (.int .i64 (ap [47] a b).1) ∧ w' = (if (ap [47] a b).2 = true then w.setCell ⟨B, 4, none⟩ (.bool true) else w) := by
  by_cases h : b = 0
  · have hA : ap [47] a b = (0, true) := by simp [ap, h]
    rw [hA]
    subst h
    go_enter Tryd.func40, Tryd.ntmps40
    go_wp2_with fail
    go_ret
    exact ⟨rfl, rfl⟩
  · have hA : ap [47] a b = (wr (a.tdiv b), false) := by simp [ap, h]
    rw [hA]
    have h0 : (b == 0) = false := by simpa using h
    go_enter Tryd.func40, Tryd.ntmps40
    go_wp2_with fail
    go_ret
    exact ⟨rfl, rfl⟩
set_option maxHeartbeats 1000000 in
theorem divide_1 (a b : Int) (B : Nat) (w : World) (z : Bool) (hc : w.cell? ⟨B, 4, none⟩ = some (.bool z)) (hf : w.frozen? ⟨B, 4, none⟩ = false) : Calls Tryd.prog 40 #[.pointer (some ⟨B, 0, none⟩), .string ⟨#[37]⟩, .int .i64 a, .int .i64 b] w fun e w' => e = .returned (.int .i64 (ap [37] a b).1) ∧ w' = (if (ap [37] a b).2 = true then w.setCell ⟨B, 4, none⟩ (.bool true) else w) := by
  by_cases h : b = 0
  · have hA : ap [37] a b = (0, true) := by simp [ap, h]
    rw [hA]
    subst h
    go_enter Tryd.func40, Tryd.ntmps40
    go_wp2_with fail
    go_ret
    exact ⟨rfl, rfl⟩
  · have hA : ap [37] a b = (a.tmod b, false) := by simp [ap, h]
    rw [hA]
    have h0 : (b == 0) = false := by simpa using h
    go_enter Tryd.func40, Tryd.ntmps40
    go_wp2_with fail
    go_ret
    exact ⟨rfl, rfl⟩
set_option maxRecDepth 100000 in
set_option maxHeartbeats 4000000 in
theorem apply_any (op : ByteArray) (a b : Int) (B : Nat) (w : World) (z : Bool) (hop : 1 ≤ lv op.data.toList) (hc : w.cell? ⟨B, 4, none⟩ = some (.bool z)) (hf : w.frozen? ⟨B, 4, none⟩ = false) : Calls Tryd.prog 28 #[.pointer (some ⟨B, 0, none⟩), .string op, .int .i64 a, .int .i64 b] w fun e w' => e = .returned (.int .i64 (ap op.data.toList a b).1) ∧ w' = (if (ap op.data.toList a b).2 = true then w.setCell ⟨B, 4, none⟩ (.bool true) else w) := by
  rcases op_cases op with rfl | rfl | rfl | rfl | rfl | rfl | rfl | rfl | rfl | rfl | rfl | rfl | rfl | rfl | rfl | rfl | rfl | rfl | h
  case inr.inr.inr.inr.inr.inr.inr.inr.inr.inr.inr.inr.inr.inr.inr.inr.inr.inr => exfalso; have := h.1; omega
  case inl =>
    change Calls Tryd.prog 28 _ w fun e w' => e = .returned (.int .i64 (tr (a != 0 || b != 0))) ∧ w' = w
    have H := Lib.hid (fun w => holds_0 a b w)
    obtain ⟨R, hR⟩ : ∃ R, (a != 0 || b != 0) = R := ⟨_, rfl⟩
    rw [hR] at H ⊢
    clear hR
    go_enter Tryd.func28, Tryd.ntmps28
    go_wp2_with fail
    refine (H.out w).mono ?_
    rintro e w' ⟨rfl, h⟩
    obtain rfl := h.symm
    go_wp2_with fail
    refine (truth_any _ w).mono ?_
    rintro e w' ⟨rfl, h⟩
    obtain rfl := h.symm
    go_wp2_with fail
    go_ret
    exact ⟨rfl, rfl⟩
  case inr.inl =>
    change Calls Tryd.prog 28 _ w fun e w' => e = .returned (.int .i64 (tr (a != 0 && b != 0))) ∧ w' = w
    have H := Lib.hid (fun w => holds_1 a b w)
    obtain ⟨R, hR⟩ : ∃ R, (a != 0 && b != 0) = R := ⟨_, rfl⟩
    rw [hR] at H ⊢
    clear hR
    go_enter Tryd.func28, Tryd.ntmps28
    go_wp2_with fail
    refine (H.out w).mono ?_
    rintro e w' ⟨rfl, h⟩
    obtain rfl := h.symm
    go_wp2_with fail
    refine (truth_any _ w).mono ?_
    rintro e w' ⟨rfl, h⟩
    obtain rfl := h.symm
    go_wp2_with fail
    go_ret
    exact ⟨rfl, rfl⟩
  case inr.inr.inl =>
    change Calls Tryd.prog 28 _ w fun e w' => e = .returned (.int .i64 (bits .or .i64 a b)) ∧ w' = w
    go_enter Tryd.func28, Tryd.ntmps28
    go_wp2_with fail
    go_ret
    exact ⟨rfl, rfl⟩
  case inr.inr.inr.inl =>
    change Calls Tryd.prog 28 _ w fun e w' => e = .returned (.int .i64 (bits .xor .i64 a b)) ∧ w' = w
    go_enter Tryd.func28, Tryd.ntmps28
    go_wp2_with fail
    go_ret
    exact ⟨rfl, rfl⟩
  case inr.inr.inr.inr.inl =>
    change Calls Tryd.prog 28 _ w fun e w' => e = .returned (.int .i64 (bits .and .i64 a b)) ∧ w' = w
    go_enter Tryd.func28, Tryd.ntmps28
    go_wp2_with fail
    go_ret
    exact ⟨rfl, rfl⟩
  case inr.inr.inr.inr.inr.inl =>
    change Calls Tryd.prog 28 _ w fun e w' => e = .returned (.int .i64 (tr (a == b))) ∧ w' = w
    have H := Lib.hid (fun w => holds_2 a b w)
    obtain ⟨R, hR⟩ : ∃ R, (a == b) = R := ⟨_, rfl⟩
    rw [hR] at H ⊢
    clear hR
    go_enter Tryd.func28, Tryd.ntmps28
    go_wp2_with fail
    refine (H.out w).mono ?_
    rintro e w' ⟨rfl, h⟩
    obtain rfl := h.symm
    go_wp2_with fail
    refine (truth_any _ w).mono ?_
    rintro e w' ⟨rfl, h⟩
    obtain rfl := h.symm
    go_wp2_with fail
    go_ret
    exact ⟨rfl, rfl⟩
  case inr.inr.inr.inr.inr.inr.inl =>
    change Calls Tryd.prog 28 _ w fun e w' => e = .returned (.int .i64 (tr (a != b))) ∧ w' = w
    have H := Lib.hid (fun w => holds_3 a b w)
    obtain ⟨R, hR⟩ : ∃ R, (a != b) = R := ⟨_, rfl⟩
    rw [hR] at H ⊢
    clear hR
    go_enter Tryd.func28, Tryd.ntmps28
    go_wp2_with fail
    refine (H.out w).mono ?_
    rintro e w' ⟨rfl, h⟩
    obtain rfl := h.symm
    go_wp2_with fail
    refine (truth_any _ w).mono ?_
    rintro e w' ⟨rfl, h⟩
    obtain rfl := h.symm
    go_wp2_with fail
    go_ret
    exact ⟨rfl, rfl⟩
  case inr.inr.inr.inr.inr.inr.inr.inl =>
    change Calls Tryd.prog 28 _ w fun e w' => e = .returned (.int .i64 (tr (decide (a < b)))) ∧ w' = w
    have H := Lib.hid (fun w => holds_4 a b w)
    obtain ⟨R, hR⟩ : ∃ R, (decide (a < b)) = R := ⟨_, rfl⟩
    rw [hR] at H ⊢
    clear hR
    go_enter Tryd.func28, Tryd.ntmps28
    go_wp2_with fail
    refine (H.out w).mono ?_
    rintro e w' ⟨rfl, h⟩
    obtain rfl := h.symm
    go_wp2_with fail
    refine (truth_any _ w).mono ?_
    rintro e w' ⟨rfl, h⟩
    obtain rfl := h.symm
    go_wp2_with fail
    go_ret
    exact ⟨rfl, rfl⟩
  case inr.inr.inr.inr.inr.inr.inr.inr.inl =>
    change Calls Tryd.prog 28 _ w fun e w' => e = .returned (.int .i64 (tr (decide (a ≤ b)))) ∧ w' = w
    have H := Lib.hid (fun w => holds_5 a b w)
    obtain ⟨R, hR⟩ : ∃ R, (decide (a ≤ b)) = R := ⟨_, rfl⟩
    rw [hR] at H ⊢
    clear hR
    go_enter Tryd.func28, Tryd.ntmps28
    go_wp2_with fail
    refine (H.out w).mono ?_
    rintro e w' ⟨rfl, h⟩
    obtain rfl := h.symm
    go_wp2_with fail
    refine (truth_any _ w).mono ?_
    rintro e w' ⟨rfl, h⟩
    obtain rfl := h.symm
    go_wp2_with fail
    go_ret
    exact ⟨rfl, rfl⟩
  case inr.inr.inr.inr.inr.inr.inr.inr.inr.inl =>
    change Calls Tryd.prog 28 _ w fun e w' => e = .returned (.int .i64 (tr (decide (b < a)))) ∧ w' = w
    have H := Lib.hid (fun w => holds_6 a b w)
    obtain ⟨R, hR⟩ : ∃ R, (decide (b < a)) = R := ⟨_, rfl⟩
    rw [hR] at H ⊢
    clear hR
    go_enter Tryd.func28, Tryd.ntmps28
    go_wp2_with fail
    refine (H.out w).mono ?_
    rintro e w' ⟨rfl, h⟩
    obtain rfl := h.symm
    go_wp2_with fail
    refine (truth_any _ w).mono ?_
    rintro e w' ⟨rfl, h⟩
    obtain rfl := h.symm
    go_wp2_with fail
    go_ret
    exact ⟨rfl, rfl⟩
  case inr.inr.inr.inr.inr.inr.inr.inr.inr.inr.inl =>
    change Calls Tryd.prog 28 _ w fun e w' => e = .returned (.int .i64 (tr (decide (b ≤ a)))) ∧ w' = w
    have H := Lib.hid (fun w => holds_7 a b w)
    obtain ⟨R, hR⟩ : ∃ R, (decide (b ≤ a)) = R := ⟨_, rfl⟩
    rw [hR] at H ⊢
    clear hR
    go_enter Tryd.func28, Tryd.ntmps28
    go_wp2_with fail
    refine (H.out w).mono ?_
    rintro e w' ⟨rfl, h⟩
    obtain rfl := h.symm
    go_wp2_with fail
    refine (truth_any _ w).mono ?_
    rintro e w' ⟨rfl, h⟩
    obtain rfl := h.symm
    go_wp2_with fail
    go_ret
    exact ⟨rfl, rfl⟩
  case inr.inr.inr.inr.inr.inr.inr.inr.inr.inr.inr.inl =>
    change Calls Tryd.prog 28 _ w fun e w' => e = .returned (.int .i64 (shf true a b)) ∧ w' = w
    have H : Hid (∀ w, Calls Tryd.prog 41 #[.string ⟨#[60, 60]⟩, .int .i64 a, .int .i64 b] w fun e w' => e = .returned (.int .i64 (shf true a b)) ∧ w' = w) := fun w => shift_any a b w true
    obtain ⟨R, hR⟩ : ∃ R, shf true a b = R := ⟨_, rfl⟩
    rw [hR] at H ⊢
    clear hR
    go_enter Tryd.func28, Tryd.ntmps28
    go_wp2_with fail
    refine (H.out w).mono ?_
    rintro e w' ⟨rfl, h⟩
    obtain rfl := h.symm
    go_wp2_with fail
    go_ret
    exact ⟨rfl, rfl⟩
  case inr.inr.inr.inr.inr.inr.inr.inr.inr.inr.inr.inr.inl =>
    change Calls Tryd.prog 28 _ w fun e w' => e = .returned (.int .i64 (shf false a b)) ∧ w' = w
    have H : Hid (∀ w, Calls Tryd.prog 41 #[.string ⟨#[62, 62]⟩, .int .i64 a, .int .i64 b] w fun e w' => e = .returned (.int .i64 (shf false a b)) ∧ w' = w) := fun w => shift_any a b w false
    obtain ⟨R, hR⟩ : ∃ R, shf false a b = R := ⟨_, rfl⟩
    rw [hR] at H ⊢
    clear hR
    go_enter Tryd.func28, Tryd.ntmps28
    go_wp2_with fail
    refine (H.out w).mono ?_
    rintro e w' ⟨rfl, h⟩
    obtain rfl := h.symm
    go_wp2_with fail
    go_ret
    exact ⟨rfl, rfl⟩
  case inr.inr.inr.inr.inr.inr.inr.inr.inr.inr.inr.inr.inr.inl =>
    change Calls Tryd.prog 28 _ w fun e w' => e = .returned (.int .i64 (wr (a + b))) ∧ w' = w
    go_enter Tryd.func28, Tryd.ntmps28
    go_wp2_with fail
    go_ret
    exact ⟨rfl, rfl⟩
  case inr.inr.inr.inr.inr.inr.inr.inr.inr.inr.inr.inr.inr.inr.inl =>
    change Calls Tryd.prog 28 _ w fun e w' => e = .returned (.int .i64 (wr (a - b))) ∧ w' = w
    go_enter Tryd.func28, Tryd.ntmps28
    go_wp2_with fail
    go_ret
    exact ⟨rfl, rfl⟩
  case inr.inr.inr.inr.inr.inr.inr.inr.inr.inr.inr.inr.inr.inr.inr.inl =>
    change Calls Tryd.prog 28 _ w fun e w' => e = .returned (.int .i64 (wr (a * b))) ∧ w' = w
    go_enter Tryd.func28, Tryd.ntmps28
    go_wp2_with fail
    go_ret
    exact ⟨rfl, rfl⟩
  case inr.inr.inr.inr.inr.inr.inr.inr.inr.inr.inr.inr.inr.inr.inr.inr.inl =>
    have H := Lib.hid (divide_0 a b B w z hc hf)
    change Calls Tryd.prog 28 _ w fun e w' => e = .returned (.int .i64 (ap [47] a b).1) ∧ w' = (if (ap [47] a b).2 = true then w.setCell ⟨B, 4, none⟩ (.bool true) else w)
    obtain ⟨R, hR⟩ : ∃ R, ap [47] a b = R := ⟨_, rfl⟩
    rw [hR] at H ⊢
    clear hR
    obtain ⟨W, hW⟩ : ∃ W, (if R.2 = true then w.setCell ⟨B, 4, none⟩ (.bool true) else w) = W := ⟨_, rfl⟩
    rw [hW] at H ⊢
    clear hW
    go_enter Tryd.func28, Tryd.ntmps28
    go_wp2_with fail
    refine H.out.mono ?_
    rintro e w' ⟨rfl, h⟩
    obtain rfl := h.symm
    go_wp2_with fail
    go_ret
    exact ⟨rfl, rfl⟩
  case inr.inr.inr.inr.inr.inr.inr.inr.inr.inr.inr.inr.inr.inr.inr.inr.inr.inl =>
    have H := Lib.hid (divide_1 a b B w z hc hf)
    change Calls Tryd.prog 28 _ w fun e w' => e = .returned (.int .i64 (ap [37] a b).1) ∧ w' = (if (ap [37] a b).2 = true then w.setCell ⟨B, 4, none⟩ (.bool true) else w)
    obtain ⟨R, hR⟩ : ∃ R, ap [37] a b = R := ⟨_, rfl⟩
    rw [hR] at H ⊢
    clear hR
    obtain ⟨W, hW⟩ : ∃ W, (if R.2 = true then w.setCell ⟨B, 4, none⟩ (.bool true) else w) = W := ⟨_, rfl⟩
    rw [hW] at H ⊢
    clear hW
    go_enter Tryd.func28, Tryd.ntmps28
    go_wp2_with fail
    refine H.out.mono ?_
    rintro e w' ⟨rfl, h⟩
    obtain rfl := h.symm
    go_wp2_with fail
    go_ret
    exact ⟨rfl, rfl⟩
set_option maxRecDepth 100000 in
set_option maxHeartbeats 8000000 in
theorem do_any (op : ByteArray) (a b : Int) (B : Nat) (w : World) (z : Bool) (hop : 1 ≤ lv op.data.toList) (hc : w.cell? ⟨B, 5, none⟩ = some (.bool z)) (hf : w.frozen? ⟨B, 5, none⟩ = false) : Calls Tryd.prog 32 #[.pointer (some ⟨B, 0, none⟩), .string op, .int .i64 a, .int .i64 b] w fun e w' => e = .returned (.int .i64 (ap op.data.toList a b).1) ∧ w' = (if (ap op.data.toList a b).2 = true then w.setCell ⟨B, 5, none⟩ (.bool true) else w) := by
  rcases op_cases op with rfl | rfl | rfl | rfl | rfl | rfl | rfl | rfl | rfl | rfl | rfl | rfl | rfl | rfl | rfl | rfl | rfl | rfl | h
  case inr.inr.inr.inr.inr.inr.inr.inr.inr.inr.inr.inr.inr.inr.inr.inr.inr.inr => exfalso; have := h.1; omega
  case inl =>
    change Calls Tryd.prog 32 _ w fun e w' => e = .returned (.int .i64 (tr (a != 0 || b != 0))) ∧ w' = w
    obtain ⟨p, hp⟩ : ∃ p, (a == 0) = p := ⟨_, rfl⟩
    obtain ⟨q, hq⟩ : ∃ q, (b == 0) = q := ⟨_, rfl⟩
    rw [bne_int, bne_int, hp, hq]
    have hp' : (a != 0) = !p := by rw [bne_int, hp]
    have hq' : (b != 0) = !q := by rw [bne_int, hq]
    cases p <;> cases q
    all_goals
      go_enter Tryd.func32, Tryd.ntmps32
      go_wp2_with fail
      refine (Reftruth_any _ w).mono ?_
      rintro e w' ⟨rfl, h⟩
      obtain rfl := h.symm
      go_wp2_with fail
      go_ret
      exact ⟨rfl, rfl⟩
  case inr.inl =>
    change Calls Tryd.prog 32 _ w fun e w' => e = .returned (.int .i64 (tr (a != 0 && b != 0))) ∧ w' = w
    obtain ⟨p, hp⟩ : ∃ p, (a == 0) = p := ⟨_, rfl⟩
    obtain ⟨q, hq⟩ : ∃ q, (b == 0) = q := ⟨_, rfl⟩
    rw [bne_int, bne_int, hp, hq]
    have hp' : (a != 0) = !p := by rw [bne_int, hp]
    have hq' : (b != 0) = !q := by rw [bne_int, hq]
    cases p <;> cases q
    all_goals
      go_enter Tryd.func32, Tryd.ntmps32
      go_wp2_with fail
      refine (Reftruth_any _ w).mono ?_
      rintro e w' ⟨rfl, h⟩
      obtain rfl := h.symm
      go_wp2_with fail
      go_ret
      exact ⟨rfl, rfl⟩
  case inr.inr.inl =>
    change Calls Tryd.prog 32 _ w fun e w' => e = .returned (.int .i64 (bits .or .i64 a b)) ∧ w' = w
    go_enter Tryd.func32, Tryd.ntmps32
    go_wp2_with fail
    go_ret
    exact ⟨rfl, rfl⟩
  case inr.inr.inr.inl =>
    change Calls Tryd.prog 32 _ w fun e w' => e = .returned (.int .i64 (bits .xor .i64 a b)) ∧ w' = w
    go_enter Tryd.func32, Tryd.ntmps32
    go_wp2_with fail
    go_ret
    exact ⟨rfl, rfl⟩
  case inr.inr.inr.inr.inl =>
    change Calls Tryd.prog 32 _ w fun e w' => e = .returned (.int .i64 (bits .and .i64 a b)) ∧ w' = w
    go_enter Tryd.func32, Tryd.ntmps32
    go_wp2_with fail
    go_ret
    exact ⟨rfl, rfl⟩
  case inr.inr.inr.inr.inr.inl =>
    change Calls Tryd.prog 32 _ w fun e w' => e = .returned (.int .i64 (tr (a == b))) ∧ w' = w
    obtain ⟨p, hp⟩ : ∃ p, (a == b) = p := ⟨_, rfl⟩
    rw [hp]
    go_enter Tryd.func32, Tryd.ntmps32
    go_wp2_with fail
    refine (Reftruth_any _ w).mono ?_
    rintro e w' ⟨rfl, h⟩
    obtain rfl := h.symm
    go_wp2_with fail
    go_ret
    exact ⟨rfl, rfl⟩
  case inr.inr.inr.inr.inr.inr.inl =>
    change Calls Tryd.prog 32 _ w fun e w' => e = .returned (.int .i64 (tr (a != b))) ∧ w' = w
    obtain ⟨p, hp⟩ : ∃ p, (a == b) = p := ⟨_, rfl⟩
    rw [bne_int, hp]
    have hp' : (a != b) = !p := by rw [bne_int, hp]
    go_enter Tryd.func32, Tryd.ntmps32
    go_wp2_with fail
    refine (Reftruth_any _ w).mono ?_
    rintro e w' ⟨rfl, h⟩
    obtain rfl := h.symm
    go_wp2_with fail
    go_ret
    exact ⟨rfl, rfl⟩
  case inr.inr.inr.inr.inr.inr.inr.inl =>
    change Calls Tryd.prog 32 _ w fun e w' => e = .returned (.int .i64 (tr (decide (a < b)))) ∧ w' = w
    obtain ⟨p, hp⟩ : ∃ p, (decide (a < b)) = p := ⟨_, rfl⟩
    rw [hp]
    go_enter Tryd.func32, Tryd.ntmps32
    go_wp2_with fail
    refine (Reftruth_any _ w).mono ?_
    rintro e w' ⟨rfl, h⟩
    obtain rfl := h.symm
    go_wp2_with fail
    go_ret
    exact ⟨rfl, rfl⟩
  case inr.inr.inr.inr.inr.inr.inr.inr.inl =>
    change Calls Tryd.prog 32 _ w fun e w' => e = .returned (.int .i64 (tr (decide (a ≤ b)))) ∧ w' = w
    obtain ⟨p, hp⟩ : ∃ p, (decide (a ≤ b)) = p := ⟨_, rfl⟩
    rw [hp]
    go_enter Tryd.func32, Tryd.ntmps32
    go_wp2_with fail
    refine (Reftruth_any _ w).mono ?_
    rintro e w' ⟨rfl, h⟩
    obtain rfl := h.symm
    go_wp2_with fail
    go_ret
    exact ⟨rfl, rfl⟩
  case inr.inr.inr.inr.inr.inr.inr.inr.inr.inl =>
    change Calls Tryd.prog 32 _ w fun e w' => e = .returned (.int .i64 (tr (decide (b < a)))) ∧ w' = w
    obtain ⟨p, hp⟩ : ∃ p, (decide (b < a)) = p := ⟨_, rfl⟩
    rw [hp]
    go_enter Tryd.func32, Tryd.ntmps32
    go_wp2_with fail
    refine (Reftruth_any _ w).mono ?_
    rintro e w' ⟨rfl, h⟩
    obtain rfl := h.symm
    go_wp2_with fail
    go_ret
    exact ⟨rfl, rfl⟩
  case inr.inr.inr.inr.inr.inr.inr.inr.inr.inr.inl =>
    change Calls Tryd.prog 32 _ w fun e w' => e = .returned (.int .i64 (tr (decide (b ≤ a)))) ∧ w' = w
    obtain ⟨p, hp⟩ : ∃ p, (decide (b ≤ a)) = p := ⟨_, rfl⟩
    rw [hp]
    go_enter Tryd.func32, Tryd.ntmps32
    go_wp2_with fail
    refine (Reftruth_any _ w).mono ?_
    rintro e w' ⟨rfl, h⟩
    obtain rfl := h.symm
    go_wp2_with fail
    go_ret
    exact ⟨rfl, rfl⟩
  case inr.inr.inr.inr.inr.inr.inr.inr.inr.inr.inr.inl =>
    change Calls Tryd.prog 32 _ w fun e w' => e = .returned (.int .i64 (shf true a b)) ∧ w' = w
    have H := Lib.hid (fun w => Refshift_any a b w true)
    obtain ⟨R, hR⟩ : ∃ R, shf true a b = R := ⟨_, rfl⟩
    rw [hR] at H ⊢
    clear hR
    go_enter Tryd.func32, Tryd.ntmps32
    go_wp2_with fail
    refine (H.out w).mono ?_
    rintro e w' ⟨rfl, h⟩
    obtain rfl := h.symm
    go_wp2_with fail
    go_ret
    exact ⟨rfl, rfl⟩
  case inr.inr.inr.inr.inr.inr.inr.inr.inr.inr.inr.inr.inl =>
    change Calls Tryd.prog 32 _ w fun e w' => e = .returned (.int .i64 (shf false a b)) ∧ w' = w
    have H := Lib.hid (fun w => Refshift_any a b w false)
    obtain ⟨R, hR⟩ : ∃ R, shf false a b = R := ⟨_, rfl⟩
    rw [hR] at H ⊢
    clear hR
    go_enter Tryd.func32, Tryd.ntmps32
    go_wp2_with fail
    refine (H.out w).mono ?_
    rintro e w' ⟨rfl, h⟩
    obtain rfl := h.symm
    go_wp2_with fail
    go_ret
    exact ⟨rfl, rfl⟩
  case inr.inr.inr.inr.inr.inr.inr.inr.inr.inr.inr.inr.inr.inl =>
    change Calls Tryd.prog 32 _ w fun e w' => e = .returned (.int .i64 (wr (a + b))) ∧ w' = w
    go_enter Tryd.func32, Tryd.ntmps32
    go_wp2_with fail
    go_ret
    exact ⟨rfl, rfl⟩
  case inr.inr.inr.inr.inr.inr.inr.inr.inr.inr.inr.inr.inr.inr.inl =>
    change Calls Tryd.prog 32 _ w fun e w' => e = .returned (.int .i64 (wr (a - b))) ∧ w' = w
    go_enter Tryd.func32, Tryd.ntmps32
    go_wp2_with fail
    go_ret
    exact ⟨rfl, rfl⟩
  case inr.inr.inr.inr.inr.inr.inr.inr.inr.inr.inr.inr.inr.inr.inr.inl =>
    change Calls Tryd.prog 32 _ w fun e w' => e = .returned (.int .i64 (wr (a * b))) ∧ w' = w
    go_enter Tryd.func32, Tryd.ntmps32
    go_wp2_with fail
    go_ret
    exact ⟨rfl, rfl⟩
  case inr.inr.inr.inr.inr.inr.inr.inr.inr.inr.inr.inr.inr.inr.inr.inr.inl =>
    change Calls Tryd.prog 32 _ w fun e w' => e = .returned (.int .i64 (ap [47] a b).1) ∧ w' = (if (ap [47] a b).2 = true then w.setCell ⟨B, 5, none⟩ (.bool true) else w)
    by_cases h : b = 0
    · have hA : ap [47] a b = (0, true) := by simp [ap, h]
      rw [hA]
      subst h
      go_enter Tryd.func32, Tryd.ntmps32
      go_wp2_with fail
      go_ret
      exact ⟨rfl, rfl⟩
    · have hA : ap [47] a b = (wr (a.tdiv b), false) := by simp [ap, h]
      rw [hA]
      have h0 : (b == 0) = false := by simpa using h
      go_enter Tryd.func32, Tryd.ntmps32
      go_wp2_with fail
      go_ret
      exact ⟨rfl, rfl⟩
  case inr.inr.inr.inr.inr.inr.inr.inr.inr.inr.inr.inr.inr.inr.inr.inr.inr.inl =>
    change Calls Tryd.prog 32 _ w fun e w' => e = .returned (.int .i64 (ap [37] a b).1) ∧ w' = (if (ap [37] a b).2 = true then w.setCell ⟨B, 5, none⟩ (.bool true) else w)
    by_cases h : b = 0
    · have hA : ap [37] a b = (0, true) := by simp [ap, h]
      rw [hA]
      subst h
      go_enter Tryd.func32, Tryd.ntmps32
      go_wp2_with fail
      go_ret
      exact ⟨rfl, rfl⟩
    · have hA : ap [37] a b = (a.tmod b, false) := by simp [ap, h]
      rw [hA]
      have h0 : (b == 0) = false := by simpa using h
      go_enter Tryd.func32, Tryd.ntmps32
      go_wp2_with fail
      go_ret
      exact ⟨rfl, rfl⟩
end Go.Proofs.YthgddbdkdloobaaDoor
