import Derived.Test.YtplhgjngbnkhbaaDoorAF
import Derived.Test.YtplhgjngbnkhbaaDoorE
namespace Go.Proofs.YtplhgjngbnkhbaaDoor
open Go.RowKit
set_option linter.unusedVariables false

set_option maxRecDepth 100000 in
set_option maxHeartbeats 400000 in
theorem Inf_1 (w : World) : Calls Tryd.prog 29 #[.int .i64 1] w fun e w' => e = .returned (.float .f64 9218868437227405312) ∧ w' = w := by
  have hf := run_from
  go_enter Tryd.func29, Tryd.ntmps29
  go_wp2
  go_ret
  exact ⟨rfl, rfl⟩
set_option maxRecDepth 100000 in
set_option maxHeartbeats 400000 in
theorem Inf_m1 (w : World) : Calls Tryd.prog 29 #[.int .i64 (-1)] w fun e w' => e = .returned (.float .f64 18442240474082181120) ∧ w' = w := by
  have hf := run_from
  go_enter Tryd.func29, Tryd.ntmps29
  go_wp2
  go_ret
  exact ⟨rfl, rfl⟩
/-- What stands behind a sign. -/
def ofB (neg : Bool) (l : Bs) : Nat × Bool :=
  if l = [105, 110, 102] then (sgw neg 9218868437227405312, true) else if l = [110, 97, 110] then (nanW, true)
  else if 1 ≤ l.length ∧ l.length ≤ 15 ∧ l.all isDig = true then (sgw neg (fl (dval l)), true) else (0, false)
theorem numB_of_all {s : ByteArray} : numB s = decide (1 ≤ s.data.toList.length ∧ s.data.toList.length ≤ 15 ∧ s.data.toList.all isDig = true) := by
  have hl : s.data.toList.length = s.size := Array.length_toList
  rw [Bool.eq_iff_iff, decide_eq_true_iff, hl, List.all_eq_true]
  constructor
  · intro h; obtain ⟨a, b, c⟩ := numB_facts h; exact ⟨a, b, c⟩
  · rintro ⟨a, b, c⟩; exact numB_of a b c

set_option maxRecDepth 100000 in
set_option maxHeartbeats 1000000 in
theorem Of_num_inf (s : ByteArray) (w : World) (hs : s.size ≤ 9223372036854775807) (h0 : hp s ⟨#[48, 120]⟩ = false) (h1 : hp s ⟨#[45]⟩ = false) (h2 : hp s ⟨#[43]⟩ = false) (h3 : s.data.toList = [105, 110, 102]) :
    Calls Tryd.prog 14 #[.string s] w fun e w' => e = .returned (.tuple #[.int .u64 9218868437227405312, .bool true]) ∧ Below w.heap.size w w' := by
  have hbs := hs
  have i1 : (s.toList == [105, 110, 102]) = true := by rw [beq_iff_eq, Lib.toList_data]; exact h3
  have H0 := Lib.hid h0
  have H1 := Lib.hid h1
  have H2 := Lib.hid h2
  clear h0 h1 h2 h3
  have hcv := run_conv3 4607182418800017408 (1) (by decide +kernel) (by decide) (by decide)
  go_enter Tryd.func14, Tryd.ntmps14
  go_wp2_with (first | (go_at_call 25; refine (CutPrefix_any s _ _).mono ?_; rw [H0.out]; rintro e w' ⟨rfl, rfl⟩) | (go_at_call 27; (first | ((with_reducible refine (HasPrefix_any s ⟨#[45]⟩ _).mono ?_); rw [H1.out]) | ((with_reducible refine (HasPrefix_any s ⟨#[43]⟩ _).mono ?_); rw [H2.out])); rintro e w' ⟨rfl, rfl⟩) | (go_at_call 29; refine (Inf_1 _).mono ?_; rintro e w' ⟨rfl, rfl⟩) | (go_at_call 28; refine (bits_any _ _).mono ?_; rw [show cl 9218868437227405312 = 9218868437227405312 by decide +kernel]; rintro e w' ⟨rfl, rfl⟩))
  go_ret2
  exact ⟨rfl, Below.refl _ _⟩
set_option maxRecDepth 100000 in
set_option maxHeartbeats 1000000 in
theorem Of_num_nan (s : ByteArray) (w : World) (hs : s.size ≤ 9223372036854775807) (h0 : hp s ⟨#[48, 120]⟩ = false) (h1 : hp s ⟨#[45]⟩ = false) (h2 : hp s ⟨#[43]⟩ = false) (h3 : s.data.toList = [110, 97, 110]) :
    Calls Tryd.prog 14 #[.string s] w fun e w' => e = .returned (.tuple #[.int .u64 9221120237041090560, .bool true]) ∧ Below w.heap.size w w' := by
  have hbs := hs
  have i1 : (s.toList == [105, 110, 102]) = false := by
    rw [beq_eq_false_iff_ne, Lib.toList_data]; rw [h3]; decide
  have i2 : (s.toList == [110, 97, 110]) = true := by rw [beq_iff_eq, Lib.toList_data]; exact h3
  have H0 := Lib.hid h0
  have H1 := Lib.hid h1
  have H2 := Lib.hid h2
  clear h0 h1 h2 h3
  go_enter Tryd.func14, Tryd.ntmps14
  go_wp2_with (first | (go_at_call 25; refine (CutPrefix_any s _ _).mono ?_; rw [H0.out]; rintro e w' ⟨rfl, rfl⟩) | (go_at_call 27; (first | ((with_reducible refine (HasPrefix_any s ⟨#[45]⟩ _).mono ?_); rw [H1.out]) | ((with_reducible refine (HasPrefix_any s ⟨#[43]⟩ _).mono ?_); rw [H2.out])); rintro e w' ⟨rfl, rfl⟩))
  go_ret2
  exact ⟨rfl, Below.refl _ _⟩
set_option maxRecDepth 100000 in
set_option maxHeartbeats 1000000 in
theorem Of_num_none (s : ByteArray) (w : World) (hs : s.size ≤ 9223372036854775807) (h0 : hp s ⟨#[48, 120]⟩ = false) (h1 : hp s ⟨#[45]⟩ = false) (h2 : hp s ⟨#[43]⟩ = false) (h3 : numB s = false) (h4 : s.data.toList ≠ [105, 110, 102]) (h5 : s.data.toList ≠ [110, 97, 110]) :
    Calls Tryd.prog 14 #[.string s] w fun e w' => e = .returned (.tuple #[.int .u64 0, .bool false]) ∧ Below w.heap.size w w' := by
  have hbs := hs
  have i1 : (s.toList == [105, 110, 102]) = false := by
    rw [beq_eq_false_iff_ne, Lib.toList_data]; exact h4
  have i2 : (s.toList == [110, 97, 110]) = false := by rw [beq_eq_false_iff_ne, Lib.toList_data]; exact h5
  have H0 := Lib.hid h0
  have H1 := Lib.hid h1
  have H2 := Lib.hid h2
  have H3 := Lib.hid h3
  clear h0 h1 h2 h4 h5 h3
  go_enter Tryd.func14, Tryd.ntmps14
  go_wp2_with (first | (go_at_call 25; refine (CutPrefix_any s _ _).mono ?_; rw [H0.out]; rintro e w' ⟨rfl, rfl⟩) | (go_at_call 27; (first | ((with_reducible refine (HasPrefix_any s ⟨#[45]⟩ _).mono ?_); rw [H1.out]) | ((with_reducible refine (HasPrefix_any s ⟨#[43]⟩ _).mono ?_); rw [H2.out])); rintro e w' ⟨rfl, rfl⟩) | (go_at_call 30; refine (Number_any s _ hbs).mono ?_; rw [H3.out]; rintro e w' ⟨rfl, rfl⟩))
  go_ret2
  exact ⟨rfl, Below.refl _ _⟩
set_option maxRecDepth 100000 in
set_option maxHeartbeats 1000000 in
theorem Of_neg_inf (s : ByteArray) (w : World) (hs : s.size ≤ 9223372036854775807) (h0 : hp s ⟨#[48, 120]⟩ = false) (h1 : hp s ⟨#[45]⟩ = true) (b : ByteArray) (hbe : s.extract 1 s.size = b) (h3 : b.data.toList = [105, 110, 102]) :
    Calls Tryd.prog 14 #[.string s] w fun e w' => e = .returned (.tuple #[.int .u64 18442240474082181120, .bool true]) ∧ Below w.heap.size w w' := by
  have hsz : 1 ≤ s.size := hp_le h1
  have hbs : b.size ≤ 9223372036854775807 := by rw [← hbe, ByteArray.size_extract]; omega
  have i1 : (b.toList == [105, 110, 102]) = true := by rw [beq_iff_eq, Lib.toList_data]; exact h3
  have H0 := Lib.hid h0
  have H1 := Lib.hid h1
  clear h0 h1 h3
  have hcv := run_conv3 13830554455654793216 (-1) (by decide +kernel) (by decide) (by decide)
  go_enter Tryd.func14, Tryd.ntmps14
  go_wp2_with (first | (go_at_call 25; refine (CutPrefix_any s _ _).mono ?_; rw [H0.out]; rintro e w' ⟨rfl, rfl⟩) | (go_at_call 27; (first | ((with_reducible refine (HasPrefix_any s ⟨#[45]⟩ _).mono ?_); rw [H1.out])); rintro e w' ⟨rfl, rfl⟩))
  go_quiet (fail)
  have HBq := Lib.hid (below_drewN (Below.refl w'.heap.size w') nq)
  go_wp2_with (first | (go_at_call 29; refine (Inf_m1 _).mono ?_; rintro e w' ⟨rfl, rfl⟩) | (go_at_call 28; refine (bits_any _ _).mono ?_; rw [show cl 18442240474082181120 = 18442240474082181120 by decide +kernel]; rintro e w' ⟨rfl, rfl⟩) | fail)
  go_ret2
  exact ⟨rfl, HBq.out⟩
set_option maxRecDepth 100000 in
set_option maxHeartbeats 1000000 in
theorem Of_neg_nan (s : ByteArray) (w : World) (hs : s.size ≤ 9223372036854775807) (h0 : hp s ⟨#[48, 120]⟩ = false) (h1 : hp s ⟨#[45]⟩ = true) (b : ByteArray) (hbe : s.extract 1 s.size = b) (h3 : b.data.toList = [110, 97, 110]) :
    Calls Tryd.prog 14 #[.string s] w fun e w' => e = .returned (.tuple #[.int .u64 9221120237041090560, .bool true]) ∧ Below w.heap.size w w' := by
  have hsz : 1 ≤ s.size := hp_le h1
  have hbs : b.size ≤ 9223372036854775807 := by rw [← hbe, ByteArray.size_extract]; omega
  have i1 : (b.toList == [105, 110, 102]) = false := by
    rw [beq_eq_false_iff_ne, Lib.toList_data]; rw [h3]; decide
  have i2 : (b.toList == [110, 97, 110]) = true := by rw [beq_iff_eq, Lib.toList_data]; exact h3
  have H0 := Lib.hid h0
  have H1 := Lib.hid h1
  clear h0 h1 h3
  go_enter Tryd.func14, Tryd.ntmps14
  go_wp2_with (first | (go_at_call 25; refine (CutPrefix_any s _ _).mono ?_; rw [H0.out]; rintro e w' ⟨rfl, rfl⟩) | (go_at_call 27; (first | ((with_reducible refine (HasPrefix_any s ⟨#[45]⟩ _).mono ?_); rw [H1.out])); rintro e w' ⟨rfl, rfl⟩))
  go_quiet (fail)
  have HBq := Lib.hid (below_drewN (Below.refl w'.heap.size w') nq)
  go_wp2_with (first | fail)
  go_ret2
  exact ⟨rfl, HBq.out⟩
set_option maxRecDepth 100000 in
set_option maxHeartbeats 1000000 in
theorem Of_neg_none (s : ByteArray) (w : World) (hs : s.size ≤ 9223372036854775807) (h0 : hp s ⟨#[48, 120]⟩ = false) (h1 : hp s ⟨#[45]⟩ = true) (b : ByteArray) (hbe : s.extract 1 s.size = b) (h3 : numB b = false) (h4 : b.data.toList ≠ [105, 110, 102]) (h5 : b.data.toList ≠ [110, 97, 110]) :
    Calls Tryd.prog 14 #[.string s] w fun e w' => e = .returned (.tuple #[.int .u64 0, .bool false]) ∧ Below w.heap.size w w' := by
  have hsz : 1 ≤ s.size := hp_le h1
  have hbs : b.size ≤ 9223372036854775807 := by rw [← hbe, ByteArray.size_extract]; omega
  have i1 : (b.toList == [105, 110, 102]) = false := by
    rw [beq_eq_false_iff_ne, Lib.toList_data]; exact h4
  have i2 : (b.toList == [110, 97, 110]) = false := by rw [beq_eq_false_iff_ne, Lib.toList_data]; exact h5
  have H0 := Lib.hid h0
  have H1 := Lib.hid h1
  have H3 := Lib.hid h3
  clear h0 h1 h4 h5 h3
  go_enter Tryd.func14, Tryd.ntmps14
  go_wp2_with (first | (go_at_call 25; refine (CutPrefix_any s _ _).mono ?_; rw [H0.out]; rintro e w' ⟨rfl, rfl⟩) | (go_at_call 27; (first | ((with_reducible refine (HasPrefix_any s ⟨#[45]⟩ _).mono ?_); rw [H1.out])); rintro e w' ⟨rfl, rfl⟩))
  go_quiet (fail)
  have HBq := Lib.hid (below_drewN (Below.refl w'.heap.size w') nq)
  go_wp2_with (first | (go_at_call 30; refine (Number_any b _ hbs).mono ?_; rw [H3.out]; rintro e w' ⟨rfl, rfl⟩) | fail)
  go_ret2
  exact ⟨rfl, HBq.out⟩
set_option maxRecDepth 100000 in
set_option maxHeartbeats 1000000 in
theorem Of_pos_inf (s : ByteArray) (w : World) (hs : s.size ≤ 9223372036854775807) (h0 : hp s ⟨#[48, 120]⟩ = false) (h1 : hp s ⟨#[45]⟩ = false) (h2 : hp s ⟨#[43]⟩ = true) (b : ByteArray) (hbe : s.extract 1 s.size = b) (h3 : b.data.toList = [105, 110, 102]) :
    Calls Tryd.prog 14 #[.string s] w fun e w' => e = .returned (.tuple #[.int .u64 9218868437227405312, .bool true]) ∧ Below w.heap.size w w' := by
  have hsz : 1 ≤ s.size := hp_le h2
  have hbs : b.size ≤ 9223372036854775807 := by rw [← hbe, ByteArray.size_extract]; omega
  have i1 : (b.toList == [105, 110, 102]) = true := by rw [beq_iff_eq, Lib.toList_data]; exact h3
  have H0 := Lib.hid h0
  have H1 := Lib.hid h1
  have H2 := Lib.hid h2
  clear h0 h1 h2 h3
  have hcv := run_conv3 4607182418800017408 (1) (by decide +kernel) (by decide) (by decide)
  go_enter Tryd.func14, Tryd.ntmps14
  go_wp2_with (first | (go_at_call 25; refine (CutPrefix_any s _ _).mono ?_; rw [H0.out]; rintro e w' ⟨rfl, rfl⟩) | (go_at_call 27; (first | ((with_reducible refine (HasPrefix_any s ⟨#[45]⟩ _).mono ?_); rw [H1.out]) | ((with_reducible refine (HasPrefix_any s ⟨#[43]⟩ _).mono ?_); rw [H2.out])); rintro e w' ⟨rfl, rfl⟩) | (go_at_call 29; refine (Inf_1 _).mono ?_; rintro e w' ⟨rfl, rfl⟩) | (go_at_call 28; refine (bits_any _ _).mono ?_; rw [show cl 9218868437227405312 = 9218868437227405312 by decide +kernel]; rintro e w' ⟨rfl, rfl⟩))
  go_ret2
  exact ⟨rfl, Below.refl _ _⟩
set_option maxRecDepth 100000 in
set_option maxHeartbeats 1000000 in
theorem Of_pos_nan (s : ByteArray) (w : World) (hs : s.size ≤ 9223372036854775807) (h0 : hp s ⟨#[48, 120]⟩ = false) (h1 : hp s ⟨#[45]⟩ = false) (h2 : hp s ⟨#[43]⟩ = true) (b : ByteArray) (hbe : s.extract 1 s.size = b) (h3 : b.data.toList = [110, 97, 110]) :
    Calls Tryd.prog 14 #[.string s] w fun e w' => e = .returned (.tuple #[.int .u64 9221120237041090560, .bool true]) ∧ Below w.heap.size w w' := by
  have hsz : 1 ≤ s.size := hp_le h2
  have hbs : b.size ≤ 9223372036854775807 := by rw [← hbe, ByteArray.size_extract]; omega
  have i1 : (b.toList == [105, 110, 102]) = false := by
    rw [beq_eq_false_iff_ne, Lib.toList_data]; rw [h3]; decide
  have i2 : (b.toList == [110, 97, 110]) = true := by rw [beq_iff_eq, Lib.toList_data]; exact h3
  have H0 := Lib.hid h0
  have H1 := Lib.hid h1
  have H2 := Lib.hid h2
  clear h0 h1 h2 h3
  go_enter Tryd.func14, Tryd.ntmps14
  go_wp2_with (first | (go_at_call 25; refine (CutPrefix_any s _ _).mono ?_; rw [H0.out]; rintro e w' ⟨rfl, rfl⟩) | (go_at_call 27; (first | ((with_reducible refine (HasPrefix_any s ⟨#[45]⟩ _).mono ?_); rw [H1.out]) | ((with_reducible refine (HasPrefix_any s ⟨#[43]⟩ _).mono ?_); rw [H2.out])); rintro e w' ⟨rfl, rfl⟩))
  go_ret2
  exact ⟨rfl, Below.refl _ _⟩
set_option maxRecDepth 100000 in
set_option maxHeartbeats 1000000 in
theorem Of_pos_none (s : ByteArray) (w : World) (hs : s.size ≤ 9223372036854775807) (h0 : hp s ⟨#[48, 120]⟩ = false) (h1 : hp s ⟨#[45]⟩ = false) (h2 : hp s ⟨#[43]⟩ = true) (b : ByteArray) (hbe : s.extract 1 s.size = b) (h3 : numB b = false) (h4 : b.data.toList ≠ [105, 110, 102]) (h5 : b.data.toList ≠ [110, 97, 110]) :
    Calls Tryd.prog 14 #[.string s] w fun e w' => e = .returned (.tuple #[.int .u64 0, .bool false]) ∧ Below w.heap.size w w' := by
  have hsz : 1 ≤ s.size := hp_le h2
  have hbs : b.size ≤ 9223372036854775807 := by rw [← hbe, ByteArray.size_extract]; omega
  have i1 : (b.toList == [105, 110, 102]) = false := by
    rw [beq_eq_false_iff_ne, Lib.toList_data]; exact h4
  have i2 : (b.toList == [110, 97, 110]) = false := by rw [beq_eq_false_iff_ne, Lib.toList_data]; exact h5
  have H0 := Lib.hid h0
  have H1 := Lib.hid h1
  have H2 := Lib.hid h2
  have H3 := Lib.hid h3
  clear h0 h1 h2 h4 h5 h3
  go_enter Tryd.func14, Tryd.ntmps14
  go_wp2_with (first | (go_at_call 25; refine (CutPrefix_any s _ _).mono ?_; rw [H0.out]; rintro e w' ⟨rfl, rfl⟩) | (go_at_call 27; (first | ((with_reducible refine (HasPrefix_any s ⟨#[45]⟩ _).mono ?_); rw [H1.out]) | ((with_reducible refine (HasPrefix_any s ⟨#[43]⟩ _).mono ?_); rw [H2.out])); rintro e w' ⟨rfl, rfl⟩) | (go_at_call 30; refine (Number_any b _ hbs).mono ?_; rw [H3.out]; rintro e w' ⟨rfl, rfl⟩))
  go_ret2
  exact ⟨rfl, Below.refl _ _⟩
end Go.Proofs.YtplhgjngbnkhbaaDoor
