import Derived.Test.YtcmjpkfinbakkaaGreatDoorRV
import Derived.Test.YtcmjpkfinbakkaaGreatDoorRE
namespace Go.Proofs.YtcmjpkfinbakkaaGreatDoor.Fl
set_option maxRecDepth 100000
open Go.RowKit
set_option linter.unusedVariables false

/-- The cutset. -/
def hxs : Bs := [48, 49, 50, 51, 52, 53, 54, 55, 56, 57, 97, 98, 99, 100, 101, 102]
theorem hxs_all : ∀ n : Fin 256, (hxs.contains (UInt8.ofNat n.val)) = decide (hv (UInt8.ofNat n.val) < 16) := by decide +kernel
theorem hxs_iff (c : UInt8) : hxs.contains c = decide (hv c < 16) := by
  have h := hxs_all ⟨c.toNat, c.toNat_lt⟩
  simpa using h
/-- All of it digits of base sixteen? -/
def allHx (l : Bs) : Bool := l.all fun c => decide (hv c < 16)
theorem dropWhile_nil_iff {p : UInt8 → Bool} : ∀ l : Bs, l.dropWhile p = [] ↔ l.all p = true
  | [] => by simp
  | c :: l => by
    rw [List.dropWhile_cons, List.all_cons]
    cases h : p c
    · simp
    · simp [dropWhile_nil_iff l]
theorem hxs_fun : (fun c => hxs.contains c) = fun c => decide (hv c < 16) := funext hxs_iff
theorem trim_nil (l : Bs) : (Lib.trimS l hxs = []) ↔ allHx l = true := by
  unfold Lib.trimS Lib.trimLeftS Lib.trimRightS allHx
  rw [hxs_fun, dropWhile_nil_iff]
  constructor
  · intro h
    rw [List.all_eq_true] at h ⊢
    intro c hc
    have : (l.reverse.dropWhile fun c => decide (hv c < 16)) = [] := by
      cases hd : l.reverse.dropWhile fun c => decide (hv c < 16) with
      | nil => rfl
      | cons a t =>
        have h1 := h a (by rw [hd]; simp)
        have h2 := List.head_dropWhile_not (fun c => decide (hv c < 16)) (l := l.reverse) (by rw [hd]; simp)
        simp only [hd, List.head_cons] at h2
        rw [h1] at h2; cases h2
    rw [dropWhile_nil_iff, List.all_eq_true] at this
    exact this c (by simpa using hc)
  · intro h
    have : (l.reverse.dropWhile fun c => decide (hv c < 16)) = [] := by
      rw [dropWhile_nil_iff, List.all_eq_true]
      rw [List.all_eq_true] at h
      intro c hc
      exact h c (by simpa using hc)
    rw [this]; rfl
/-- What the digits behind 0x say. -/
def bitsL (l : Bs) : Nat × Bool := if l.length = 16 ∧ allHx l = true then (cl (hval l), true) else (0, false)
theorem Trim_hx (s : ByteArray) (w : World) (hs : s.size ≤ 9223372036854775807) :
    Calls Tryz.prog 208 #[.string s, .string ⟨#[48, 49, 50, 51, 52, 53, 54, 55, 56, 57, 97, 98, 99, 100, 101, 102]⟩] w fun e w' => e = .returned (.string ⟨(Lib.trimS s.data.toList hxs).toArray⟩) ∧ Below w.heap.size w w' :=
  Tryz.strings_Trim_laid s _ w hs (by decide) (ascii_of_all (by decide))

set_option maxRecDepth 100000 in
set_option maxHeartbeats 1000000 in
theorem ofBits_yes (s : ByteArray) (w : World) (h1 : s.size = 16) (h2 : allHx s.data.toList = true) :
    Calls Tryz.prog 157 #[.string s] w fun e w' => e = .returned (.tuple #[.int .u64 (cl (hval s.data.toList)), .bool true]) ∧ Below w.heap.size w w' := by
  have hT := Trim_hx s w (by omega)
  have hn := (trim_nil s.data.toList).2 h2
  rw [hn] at hT
  have HT := Lib.hid hT
  have HP := Lib.hid (fun w => ParseUint_any s w (by omega) (by
    intro c hc
    have := List.all_eq_true.1 h2 c hc
    simpa using this))
  have g1 : ((s.size : Int) == 16) = true := by rw [beq_iff_eq]; omega
  have g2 : ((s.size : Int) != 16) = false := by rw [bne_eq_false_iff_eq]; omega
  have hf := run_from
  obtain ⟨R, hR⟩ : ∃ R, hval s.data.toList = R := ⟨_, rfl⟩
  rw [hR] at HP ⊢
  clear hR h1 h2 hT hn
  go_enter Tryz.func157, Tryz.ntmps157
  go_wp2_with fail
  refine HT.out.mono ?_
  rintro e w1 ⟨rfl, hB⟩
  have HB := Lib.hid hB
  clear hB
  go_wp2_with fail
  refine (HP.out w1).mono ?_
  rintro e w2 ⟨rfl, hB⟩
  have HB2 := Lib.hid (below_trans HB.out hB)
  clear hB
  go_wp2_with fail
  refine (bits_any _ _).mono ?_
  rintro e w3 ⟨rfl, h⟩
  obtain rfl := h.symm
  go_wp2_with fail
  go_ret2
  exact ⟨rfl, HB2.out⟩
set_option maxRecDepth 100000 in
set_option maxHeartbeats 1000000 in
theorem ofBits_no (s : ByteArray) (w : World) (hs : s.size ≤ 1000000) (h : ¬ (s.size = 16 ∧ allHx s.data.toList = true)) :
    Calls Tryz.prog 157 #[.string s] w fun e w' => e = .returned (.tuple #[.int .u64 0, .bool false]) ∧ Below w.heap.size w w' := by
  by_cases h1 : s.size = 16
  · have hT := Trim_hx s w (by omega)
    have hn : Lib.trimS s.data.toList hxs ≠ [] := fun e => h ⟨h1, (trim_nil _).1 e⟩
    obtain ⟨Z, hZ⟩ : ∃ Z : ByteArray, ⟨(Lib.trimS s.data.toList hxs).toArray⟩ = Z := ⟨_, rfl⟩
    rw [hZ] at hT
    have HT := Lib.hid hT
    have g1 : ((s.size : Int) == 16) = true := by rw [beq_iff_eq]; omega
    have g2 : ((s.size : Int) != 16) = false := by rw [bne_eq_false_iff_eq]; omega
    have g3 : (Z.toList == []) = false := by
      rw [beq_eq_false_iff_ne, ← hZ, Lib.toList_data]; simpa using hn
    have g4 : Z.toList.isEmpty = false := by
      rw [← hZ, Lib.toList_data]; simpa using hn
    clear h h1 hT hn hZ
    go_enter Tryz.func157, Tryz.ntmps157
    go_wp2_with fail
    refine HT.out.mono ?_
    rintro e w1 ⟨rfl, hB⟩
    have HB := Lib.hid hB
    clear hB
    go_wp2_with fail
    go_ret2
    exact ⟨rfl, HB.out⟩
  · have g1 : ((s.size : Int) == 16) = false := by rw [beq_eq_false_iff_ne]; omega
    have g2 : ((s.size : Int) != 16) = true := by rw [bne_iff_ne]; omega
    clear h h1
    go_enter Tryz.func157, Tryz.ntmps157
    go_wp2_with fail
    go_ret2
    exact ⟨rfl, Below.refl _ _⟩
end Go.Proofs.YtcmjpkfinbakkaaGreatDoor.Fl

namespace Go.Proofs.YtcmjpkfinbakkaaGreatDoor.Fl
set_option maxRecDepth 100000
open Go.RowKit
set_option linter.unusedVariables false

set_option maxRecDepth 100000 in
set_option maxHeartbeats 400000 in
theorem Inf_1 (w : World) : Calls Tryz.prog 159 #[.int .i64 1] w fun e w' => e = .returned (.float .f64 9218868437227405312) ∧ w' = w := by
  have hf := run_from
  go_enter Tryz.func159, Tryz.ntmps159
  go_wp2
  go_ret
  exact ⟨rfl, rfl⟩
set_option maxRecDepth 100000 in
set_option maxHeartbeats 400000 in
theorem Inf_m1 (w : World) : Calls Tryz.prog 159 #[.int .i64 (-1)] w fun e w' => e = .returned (.float .f64 18442240474082181120) ∧ w' = w := by
  have hf := run_from
  go_enter Tryz.func159, Tryz.ntmps159
  go_wp2
  go_ret
  exact ⟨rfl, rfl⟩
/-- What stands behind a sign. -/
def ofB (neg : Bool) (l : Bs) : Nat × Bool :=
  if l = [105, 110, 102] then (sgw neg 9218868437227405312, true) else if l = [110, 97, 110] then (nanW, true)
  else if 1 ≤ l.length ∧ l.length ≤ 15 ∧ l.all isDig = true then (sgw neg (fl (dval l)), true) else (0, false)
theorem numB_of_all {s : ByteArray} : numB s = decide (1 ≤ s.data.toList.length ∧ s.data.toList.length ≤ 15 ∧ s.data.toList.all isDig = true) := by
  have hl : s.data.toList.length = s.size := Array.length_toList
  rw [Bool.eq_iff_iff, decide_eq_true_iff, hl, List.all_eq_true]
  constructor
  · intro h; obtain ⟨a, b, c⟩ := numB_facts h; exact ⟨a, b, c⟩
  · rintro ⟨a, b, c⟩; exact numB_of a b c

set_option maxRecDepth 100000 in
set_option maxHeartbeats 1000000 in
theorem Of_num_inf (s : ByteArray) (w : World) (hs : s.size ≤ 9223372036854775807) (h0 : hp s ⟨#[48, 120]⟩ = false) (h1 : hp s ⟨#[45]⟩ = false) (h2 : hp s ⟨#[43]⟩ = false) (h3 : s.data.toList = [105, 110, 102]) :
    Calls Tryz.prog 114 #[.string s] w fun e w' => e = .returned (.tuple #[.int .u64 9218868437227405312, .bool true]) ∧ Below w.heap.size w w' := by
  have hbs := hs
  have i1 : (s.toList == [105, 110, 102]) = true := by rw [beq_iff_eq, Lib.toList_data]; exact h3
  have H0 := Lib.hid h0
  have H1 := Lib.hid h1
  have H2 := Lib.hid h2
  clear h0 h1 h2 h3
  have hcv := run_conv3 4607182418800017408 (1) (by decide +kernel) (by decide) (by decide)
  go_enter Tryz.func114, Tryz.ntmps114
  go_wp2_with (first | (go_at_call 156; refine (CutPrefix_any s _ _).mono ?_; rw [H0.out]; rintro e w' ⟨rfl, rfl⟩) | (go_at_call 41; (first | ((with_reducible refine (HasPrefix_any s ⟨#[45]⟩ _).mono ?_); rw [H1.out]) | ((with_reducible refine (HasPrefix_any s ⟨#[43]⟩ _).mono ?_); rw [H2.out])); rintro e w' ⟨rfl, rfl⟩) | (go_at_call 159; refine (Inf_1 _).mono ?_; rintro e w' ⟨rfl, rfl⟩) | (go_at_call 158; refine (bits_any _ _).mono ?_; rw [show cl 9218868437227405312 = 9218868437227405312 by decide +kernel]; rintro e w' ⟨rfl, rfl⟩))
  go_ret2
  exact ⟨rfl, Below.refl _ _⟩
set_option maxRecDepth 100000 in
set_option maxHeartbeats 1000000 in
theorem Of_num_nan (s : ByteArray) (w : World) (hs : s.size ≤ 9223372036854775807) (h0 : hp s ⟨#[48, 120]⟩ = false) (h1 : hp s ⟨#[45]⟩ = false) (h2 : hp s ⟨#[43]⟩ = false) (h3 : s.data.toList = [110, 97, 110]) :
    Calls Tryz.prog 114 #[.string s] w fun e w' => e = .returned (.tuple #[.int .u64 9221120237041090560, .bool true]) ∧ Below w.heap.size w w' := by
  have hbs := hs
  have i1 : (s.toList == [105, 110, 102]) = false := by
    rw [beq_eq_false_iff_ne, Lib.toList_data]; rw [h3]; decide
  have i2 : (s.toList == [110, 97, 110]) = true := by rw [beq_iff_eq, Lib.toList_data]; exact h3
  have H0 := Lib.hid h0
  have H1 := Lib.hid h1
  have H2 := Lib.hid h2
  clear h0 h1 h2 h3
  go_enter Tryz.func114, Tryz.ntmps114
  go_wp2_with (first | (go_at_call 156; refine (CutPrefix_any s _ _).mono ?_; rw [H0.out]; rintro e w' ⟨rfl, rfl⟩) | (go_at_call 41; (first | ((with_reducible refine (HasPrefix_any s ⟨#[45]⟩ _).mono ?_); rw [H1.out]) | ((with_reducible refine (HasPrefix_any s ⟨#[43]⟩ _).mono ?_); rw [H2.out])); rintro e w' ⟨rfl, rfl⟩))
  go_ret2
  exact ⟨rfl, Below.refl _ _⟩
set_option maxRecDepth 100000 in
set_option maxHeartbeats 1000000 in
theorem Of_num_none (s : ByteArray) (w : World) (hs : s.size ≤ 9223372036854775807) (h0 : hp s ⟨#[48, 120]⟩ = false) (h1 : hp s ⟨#[45]⟩ = false) (h2 : hp s ⟨#[43]⟩ = false) (h3 : numB s = false) (h4 : s.data.toList ≠ [105, 110, 102]) (h5 : s.data.toList ≠ [110, 97, 110]) :
    Calls Tryz.prog 114 #[.string s] w fun e w' => e = .returned (.tuple #[.int .u64 0, .bool false]) ∧ Below w.heap.size w w' := by
  have hbs := hs
  have i1 : (s.toList == [105, 110, 102]) = false := by
    rw [beq_eq_false_iff_ne, Lib.toList_data]; exact h4
  have i2 : (s.toList == [110, 97, 110]) = false := by rw [beq_eq_false_iff_ne, Lib.toList_data]; exact h5
  have H0 := Lib.hid h0
  have H1 := Lib.hid h1
  have H2 := Lib.hid h2
  have H3 := Lib.hid h3
  clear h0 h1 h2 h4 h5 h3
  go_enter Tryz.func114, Tryz.ntmps114
  go_wp2_with (first | (go_at_call 156; refine (CutPrefix_any s _ _).mono ?_; rw [H0.out]; rintro e w' ⟨rfl, rfl⟩) | (go_at_call 41; (first | ((with_reducible refine (HasPrefix_any s ⟨#[45]⟩ _).mono ?_); rw [H1.out]) | ((with_reducible refine (HasPrefix_any s ⟨#[43]⟩ _).mono ?_); rw [H2.out])); rintro e w' ⟨rfl, rfl⟩) | (go_at_call 160; refine (Number_any s _ hbs).mono ?_; rw [H3.out]; rintro e w' ⟨rfl, rfl⟩))
  go_ret2
  exact ⟨rfl, Below.refl _ _⟩
set_option maxRecDepth 100000 in
set_option maxHeartbeats 1000000 in
theorem Of_neg_inf (s : ByteArray) (w : World) (hs : s.size ≤ 9223372036854775807) (h0 : hp s ⟨#[48, 120]⟩ = false) (h1 : hp s ⟨#[45]⟩ = true) (b : ByteArray) (hbe : s.extract 1 s.size = b) (h3 : b.data.toList = [105, 110, 102]) :
    Calls Tryz.prog 114 #[.string s] w fun e w' => e = .returned (.tuple #[.int .u64 18442240474082181120, .bool true]) ∧ Below w.heap.size w w' := by
  have hsz : 1 ≤ s.size := hp_le h1
  have hbs : b.size ≤ 9223372036854775807 := by rw [← hbe, ByteArray.size_extract]; omega
  have i1 : (b.toList == [105, 110, 102]) = true := by rw [beq_iff_eq, Lib.toList_data]; exact h3
  have H0 := Lib.hid h0
  have H1 := Lib.hid h1
  clear h0 h1 h3
  have hcv := run_conv3 13830554455654793216 (-1) (by decide +kernel) (by decide) (by decide)
  go_enter Tryz.func114, Tryz.ntmps114
  go_wp2_with (first | (go_at_call 156; refine (CutPrefix_any s _ _).mono ?_; rw [H0.out]; rintro e w' ⟨rfl, rfl⟩) | (go_at_call 41; (first | ((with_reducible refine (HasPrefix_any s ⟨#[45]⟩ _).mono ?_); rw [H1.out])); rintro e w' ⟨rfl, rfl⟩))
  go_quiet (fail)
  have HBq := Lib.hid (below_drewN (Below.refl w'.heap.size w') nq)
  go_wp2_with (first | (go_at_call 159; refine (Inf_m1 _).mono ?_; rintro e w' ⟨rfl, rfl⟩) | (go_at_call 158; refine (bits_any _ _).mono ?_; rw [show cl 18442240474082181120 = 18442240474082181120 by decide +kernel]; rintro e w' ⟨rfl, rfl⟩) | fail)
  go_ret2
  exact ⟨rfl, HBq.out⟩
set_option maxRecDepth 100000 in
set_option maxHeartbeats 1000000 in
theorem Of_neg_nan (s : ByteArray) (w : World) (hs : s.size ≤ 9223372036854775807) (h0 : hp s ⟨#[48, 120]⟩ = false) (h1 : hp s ⟨#[45]⟩ = true) (b : ByteArray) (hbe : s.extract 1 s.size = b) (h3 : b.data.toList = [110, 97, 110]) :
    Calls Tryz.prog 114 #[.string s] w fun e w' => e = .returned (.tuple #[.int .u64 9221120237041090560, .bool true]) ∧ Below w.heap.size w w' := by
  have hsz : 1 ≤ s.size := hp_le h1
  have hbs : b.size ≤ 9223372036854775807 := by rw [← hbe, ByteArray.size_extract]; omega
  have i1 : (b.toList == [105, 110, 102]) = false := by
    rw [beq_eq_false_iff_ne, Lib.toList_data]; rw [h3]; decide
  have i2 : (b.toList == [110, 97, 110]) = true := by rw [beq_iff_eq, Lib.toList_data]; exact h3
  have H0 := Lib.hid h0
  have H1 := Lib.hid h1
  clear h0 h1 h3
  go_enter Tryz.func114, Tryz.ntmps114
  go_wp2_with (first | (go_at_call 156; refine (CutPrefix_any s _ _).mono ?_; rw [H0.out]; rintro e w' ⟨rfl, rfl⟩) | (go_at_call 41; (first | ((with_reducible refine (HasPrefix_any s ⟨#[45]⟩ _).mono ?_); rw [H1.out])); rintro e w' ⟨rfl, rfl⟩))
  go_quiet (fail)
  have HBq := Lib.hid (below_drewN (Below.refl w'.heap.size w') nq)
  go_wp2_with (first | fail)
  go_ret2
  exact ⟨rfl, HBq.out⟩
set_option maxRecDepth 100000 in
set_option maxHeartbeats 1000000 in
theorem Of_neg_none (s : ByteArray) (w : World) (hs : s.size ≤ 9223372036854775807) (h0 : hp s ⟨#[48, 120]⟩ = false) (h1 : hp s ⟨#[45]⟩ = true) (b : ByteArray) (hbe : s.extract 1 s.size = b) (h3 : numB b = false) (h4 : b.data.toList ≠ [105, 110, 102]) (h5 : b.data.toList ≠ [110, 97, 110]) :
    Calls Tryz.prog 114 #[.string s] w fun e w' => e = .returned (.tuple #[.int .u64 0, .bool false]) ∧ Below w.heap.size w w' := by
  have hsz : 1 ≤ s.size := hp_le h1
  have hbs : b.size ≤ 9223372036854775807 := by rw [← hbe, ByteArray.size_extract]; omega
  have i1 : (b.toList == [105, 110, 102]) = false := by
    rw [beq_eq_false_iff_ne, Lib.toList_data]; exact h4
  have i2 : (b.toList == [110, 97, 110]) = false := by rw [beq_eq_false_iff_ne, Lib.toList_data]; exact h5
  have H0 := Lib.hid h0
  have H1 := Lib.hid h1
  have H3 := Lib.hid h3
  clear h0 h1 h4 h5 h3
  go_enter Tryz.func114, Tryz.ntmps114
  go_wp2_with (first | (go_at_call 156; refine (CutPrefix_any s _ _).mono ?_; rw [H0.out]; rintro e w' ⟨rfl, rfl⟩) | (go_at_call 41; (first | ((with_reducible refine (HasPrefix_any s ⟨#[45]⟩ _).mono ?_); rw [H1.out])); rintro e w' ⟨rfl, rfl⟩))
  go_quiet (fail)
  have HBq := Lib.hid (below_drewN (Below.refl w'.heap.size w') nq)
  go_wp2_with (first | (go_at_call 160; refine (Number_any b _ hbs).mono ?_; rw [H3.out]; rintro e w' ⟨rfl, rfl⟩) | fail)
  go_ret2
  exact ⟨rfl, HBq.out⟩
set_option maxRecDepth 100000 in
set_option maxHeartbeats 1000000 in
theorem Of_pos_inf (s : ByteArray) (w : World) (hs : s.size ≤ 9223372036854775807) (h0 : hp s ⟨#[48, 120]⟩ = false) (h1 : hp s ⟨#[45]⟩ = false) (h2 : hp s ⟨#[43]⟩ = true) (b : ByteArray) (hbe : s.extract 1 s.size = b) (h3 : b.data.toList = [105, 110, 102]) :
    Calls Tryz.prog 114 #[.string s] w fun e w' => e = .returned (.tuple #[.int .u64 9218868437227405312, .bool true]) ∧ Below w.heap.size w w' := by
  have hsz : 1 ≤ s.size := hp_le h2
  have hbs : b.size ≤ 9223372036854775807 := by rw [← hbe, ByteArray.size_extract]; omega
  have i1 : (b.toList == [105, 110, 102]) = true := by rw [beq_iff_eq, Lib.toList_data]; exact h3
  have H0 := Lib.hid h0
  have H1 := Lib.hid h1
  have H2 := Lib.hid h2
  clear h0 h1 h2 h3
  have hcv := run_conv3 4607182418800017408 (1) (by decide +kernel) (by decide) (by decide)
  go_enter Tryz.func114, Tryz.ntmps114
  go_wp2_with (first | (go_at_call 156; refine (CutPrefix_any s _ _).mono ?_; rw [H0.out]; rintro e w' ⟨rfl, rfl⟩) | (go_at_call 41; (first | ((with_reducible refine (HasPrefix_any s ⟨#[45]⟩ _).mono ?_); rw [H1.out]) | ((with_reducible refine (HasPrefix_any s ⟨#[43]⟩ _).mono ?_); rw [H2.out])); rintro e w' ⟨rfl, rfl⟩) | (go_at_call 159; refine (Inf_1 _).mono ?_; rintro e w' ⟨rfl, rfl⟩) | (go_at_call 158; refine (bits_any _ _).mono ?_; rw [show cl 9218868437227405312 = 9218868437227405312 by decide +kernel]; rintro e w' ⟨rfl, rfl⟩))
  go_ret2
  exact ⟨rfl, Below.refl _ _⟩
set_option maxRecDepth 100000 in
set_option maxHeartbeats 1000000 in
theorem Of_pos_nan (s : ByteArray) (w : World) (hs : s.size ≤ 9223372036854775807) (h0 : hp s ⟨#[48, 120]⟩ = false) (h1 : hp s ⟨#[45]⟩ = false) (h2 : hp s ⟨#[43]⟩ = true) (b : ByteArray) (hbe : s.extract 1 s.size = b) (h3 : b.data.toList = [110, 97, 110]) :
    Calls Tryz.prog 114 #[.string s] w fun e w' => e = .returned (.tuple #[.int .u64 9221120237041090560, .bool true]) ∧ Below w.heap.size w w' := by
  have hsz : 1 ≤ s.size := hp_le h2
  have hbs : b.size ≤ 9223372036854775807 := by rw [← hbe, ByteArray.size_extract]; omega
  have i1 : (b.toList == [105, 110, 102]) = false := by
    rw [beq_eq_false_iff_ne, Lib.toList_data]; rw [h3]; decide
  have i2 : (b.toList == [110, 97, 110]) = true := by rw [beq_iff_eq, Lib.toList_data]; exact h3
  have H0 := Lib.hid h0
  have H1 := Lib.hid h1
  have H2 := Lib.hid h2
  clear h0 h1 h2 h3
  go_enter Tryz.func114, Tryz.ntmps114
  go_wp2_with (first | (go_at_call 156; refine (CutPrefix_any s _ _).mono ?_; rw [H0.out]; rintro e w' ⟨rfl, rfl⟩) | (go_at_call 41; (first | ((with_reducible refine (HasPrefix_any s ⟨#[45]⟩ _).mono ?_); rw [H1.out]) | ((with_reducible refine (HasPrefix_any s ⟨#[43]⟩ _).mono ?_); rw [H2.out])); rintro e w' ⟨rfl, rfl⟩))
  go_ret2
  exact ⟨rfl, Below.refl _ _⟩
set_option maxRecDepth 100000 in
set_option maxHeartbeats 1000000 in
theorem Of_pos_none (s : ByteArray) (w : World) (hs : s.size ≤ 9223372036854775807) (h0 : hp s ⟨#[48, 120]⟩ = false) (h1 : hp s ⟨#[45]⟩ = false) (h2 : hp s ⟨#[43]⟩ = true) (b : ByteArray) (hbe : s.extract 1 s.size = b) (h3 : numB b = false) (h4 : b.data.toList ≠ [105, 110, 102]) (h5 : b.data.toList ≠ [110, 97, 110]) :
    Calls Tryz.prog 114 #[.string s] w fun e w' => e = .returned (.tuple #[.int .u64 0, .bool false]) ∧ Below w.heap.size w w' := by
  have hsz : 1 ≤ s.size := hp_le h2
  have hbs : b.size ≤ 9223372036854775807 := by rw [← hbe, ByteArray.size_extract]; omega
  have i1 : (b.toList == [105, 110, 102]) = false := by
    rw [beq_eq_false_iff_ne, Lib.toList_data]; exact h4
  have i2 : (b.toList == [110, 97, 110]) = false := by rw [beq_eq_false_iff_ne, Lib.toList_data]; exact h5
  have H0 := Lib.hid h0
  have H1 := Lib.hid h1
  have H2 := Lib.hid h2
  have H3 := Lib.hid h3
  clear h0 h1 h2 h4 h5 h3
  go_enter Tryz.func114, Tryz.ntmps114
  go_wp2_with (first | (go_at_call 156; refine (CutPrefix_any s _ _).mono ?_; rw [H0.out]; rintro e w' ⟨rfl, rfl⟩) | (go_at_call 41; (first | ((with_reducible refine (HasPrefix_any s ⟨#[45]⟩ _).mono ?_); rw [H1.out]) | ((with_reducible refine (HasPrefix_any s ⟨#[43]⟩ _).mono ?_); rw [H2.out])); rintro e w' ⟨rfl, rfl⟩) | (go_at_call 160; refine (Number_any b _ hbs).mono ?_; rw [H3.out]; rintro e w' ⟨rfl, rfl⟩))
  go_ret2
  exact ⟨rfl, Below.refl _ _⟩
end Go.Proofs.YtcmjpkfinbakkaaGreatDoor.Fl

namespace Go.Proofs.YtcmjpkfinbakkaaGreatDoor.Fl
set_option maxRecDepth 100000
open Go.RowKit Ieee
set_option linter.unusedVariables false

/-- The number that a text is. -/
def ofL (l : Bs) : Nat × Bool :=
  if l.take 2 = [48, 120] then bitsL (l.drop 2) else if l.take 1 = [45] then ofB true (l.drop 1) else if l.take 1 = [43] then ofB false (l.drop 1) else ofB false l
theorem hp_take (s p : ByteArray) : hp s p = decide (s.data.toList.take p.size = p.data.toList) := by
  have hl : s.data.toList.length = s.size := Array.length_toList
  have hl2 : p.data.toList.length = p.size := Array.length_toList
  unfold hp
  rw [Bool.eq_iff_iff, Bool.and_eq_true, decide_eq_true_iff, decide_eq_true_iff, beq_iff_eq, Lib.extract_toList, Lib.toList_data, List.drop_zero]
  constructor
  · exact fun h => h.2
  · intro h
    refine ⟨?_, h⟩
    have := congrArg List.length h
    rw [List.length_take, hl, hl2] at this
    omega
theorem drop_data (s : ByteArray) (k : Nat) : (s.extract k s.size).data.toList = s.data.toList.drop k := by
  have hl : s.data.toList.length = s.size := Array.length_toList
  rw [← Lib.toList_data, Lib.extract_toList, ← hl, List.take_of_length_le (by simp)]
theorem sgw_inf : sgw true 9218868437227405312 = 18442240474082181120 ∧ sgw false 9218868437227405312 = 9218868437227405312 := by constructor <;> decide +kernel

theorem Of_bits (s : ByteArray) (w : World) (hs : s.size ≤ 1000000) (h0 : hp s ⟨#[48, 120]⟩ = true) (b : ByteArray) (hb : s.extract 2 s.size = b) :
    Calls Tryz.prog 114 #[.string s] w fun e w' => e = .returned (.tuple #[.int .u64 (bitsL b.data.toList).1, .bool (bitsL b.data.toList).2]) ∧ Below w.heap.size w w' := by
  have hl : b.data.toList.length = b.size := Array.length_toList
  have hbs : b.size ≤ 1000000 := by rw [← hb, ByteArray.size_extract]; omega
  have hcall : ∀ w, Calls Tryz.prog 157 #[.string b] w fun e w' => e = .returned (.tuple #[.int .u64 (bitsL b.data.toList).1, .bool (bitsL b.data.toList).2]) ∧ Below w.heap.size w w' := by
    intro w
    unfold bitsL
    rw [hl]
    by_cases h : b.size = 16 ∧ allHx b.data.toList = true
    · rw [if_pos h]; exact ofBits_yes b w h.1 h.2
    · rw [if_neg h]; exact ofBits_no b w hbs h
  have hc : ∀ w, Calls Tryz.prog 156 #[.string s, .string ⟨#[48, 120]⟩] w fun e w' => e = .returned (.tuple #[.string b, .bool true]) ∧ w' = w := by
    intro w
    have := CutPrefix_any s ⟨#[48, 120]⟩ w
    rw [h0, if_pos rfl, show (⟨#[48, 120]⟩ : ByteArray).size = 2 from rfl, hb] at this
    exact this
  have HC := Lib.hid hcall
  have HP := Lib.hid hc
  obtain ⟨x, hx⟩ : ∃ x, bitsL b.data.toList = x := ⟨_, rfl⟩
  rw [hx] at HC ⊢
  obtain ⟨n, ok⟩ := x
  clear hcall hc h0 hb hx
  go_enter Tryz.func114, Tryz.ntmps114
  go_wp2_with fail
  refine (HP.out w).mono ?_
  rintro e w1 ⟨rfl, h⟩
  obtain rfl := h.symm
  go_wp2_with fail
  refine (HC.out w).mono ?_
  rintro e w1 ⟨rfl, hB⟩
  have HB := Lib.hid hB
  clear hB
  go_wp2_with fail
  go_ret2
  exact ⟨rfl, HB.out⟩

theorem Of_any (s : ByteArray) (w : World) (hs : s.size ≤ 1000000) :
    Calls Tryz.prog 114 #[.string s] w fun e w' => e = .returned (.tuple #[.int .u64 (ofL s.data.toList).1, .bool (ofL s.data.toList).2]) ∧ Below w.heap.size w w' := by
  have hl : s.data.toList.length = s.size := Array.length_toList
  have t0 := hp_take s ⟨#[48, 120]⟩
  have t1 := hp_take s ⟨#[45]⟩
  have t2 := hp_take s ⟨#[43]⟩
  rw [show (⟨#[48, 120]⟩ : ByteArray).size = 2 from rfl, show (⟨#[48, 120]⟩ : ByteArray).data.toList = [48, 120] from rfl] at t0
  rw [show (⟨#[45]⟩ : ByteArray).size = 1 from rfl, show (⟨#[45]⟩ : ByteArray).data.toList = [45] from rfl] at t1
  rw [show (⟨#[43]⟩ : ByteArray).size = 1 from rfl, show (⟨#[43]⟩ : ByteArray).data.toList = [43] from rfl] at t2
  unfold ofL
  by_cases h0 : s.data.toList.take 2 = [48, 120]
  · rw [if_pos h0, ← drop_data]
    rw [decide_eq_true h0] at t0
    exact Of_bits s w hs t0 _ rfl
  · rw [if_neg h0]
    rw [decide_eq_false h0] at t0
    by_cases h1 : s.data.toList.take 1 = [45]
    · rw [if_pos h1, ← drop_data]
      rw [decide_eq_true h1] at t1
      unfold ofB
      by_cases c1 : (s.extract 1 s.size).data.toList = [105, 110, 102]
      · rw [if_pos c1, sgw_inf.1]; exact Of_neg_inf s w (by omega) t0 t1 _ rfl c1
      · rw [if_neg c1]
        by_cases c2 : (s.extract 1 s.size).data.toList = [110, 97, 110]
        · rw [if_pos c2]; exact Of_neg_nan s w (by omega) t0 t1 _ rfl c2
        · rw [if_neg c2]
          have hN := numB_of_all (s := s.extract 1 s.size)
          by_cases c3 : 1 ≤ (s.extract 1 s.size).data.toList.length ∧ (s.extract 1 s.size).data.toList.length ≤ 15 ∧ (s.extract 1 s.size).data.toList.all isDig = true
          · rw [if_pos c3]; rw [decide_eq_true c3] at hN; exact Of_neg s w (by omega) t0 t1 _ rfl hN
          · rw [if_neg c3]; rw [decide_eq_false c3] at hN; exact Of_neg_none s w (by omega) t0 t1 _ rfl hN c1 c2
    · rw [if_neg h1]
      rw [decide_eq_false h1] at t1
      by_cases h2 : s.data.toList.take 1 = [43]
      · rw [if_pos h2, ← drop_data]
        rw [decide_eq_true h2] at t2
        unfold ofB
        by_cases c1 : (s.extract 1 s.size).data.toList = [105, 110, 102]
        · rw [if_pos c1, sgw_inf.2]; exact Of_pos_inf s w (by omega) t0 t1 t2 _ rfl c1
        · rw [if_neg c1]
          by_cases c2 : (s.extract 1 s.size).data.toList = [110, 97, 110]
          · rw [if_pos c2]; exact Of_pos_nan s w (by omega) t0 t1 t2 _ rfl c2
          · rw [if_neg c2]
            have hN := numB_of_all (s := s.extract 1 s.size)
            by_cases c3 : 1 ≤ (s.extract 1 s.size).data.toList.length ∧ (s.extract 1 s.size).data.toList.length ≤ 15 ∧ (s.extract 1 s.size).data.toList.all isDig = true
            · rw [if_pos c3]; rw [decide_eq_true c3] at hN; exact Of_pos s w (by omega) t0 t1 t2 _ rfl hN
            · rw [if_neg c3]; rw [decide_eq_false c3] at hN; exact Of_pos_none s w (by omega) t0 t1 t2 _ rfl hN c1 c2
      · rw [if_neg h2]
        rw [decide_eq_false h2] at t2
        unfold ofB
        by_cases c1 : s.data.toList = [105, 110, 102]
        · rw [if_pos c1, sgw_inf.2]; exact Of_num_inf s w (by omega) t0 t1 t2 c1
        · rw [if_neg c1]
          by_cases c2 : s.data.toList = [110, 97, 110]
          · rw [if_pos c2]; exact Of_num_nan s w (by omega) t0 t1 t2 c2
          · rw [if_neg c2]
            have hN := numB_of_all (s := s)
            by_cases c3 : 1 ≤ s.data.toList.length ∧ s.data.toList.length ≤ 15 ∧ s.data.toList.all isDig = true
            · rw [if_pos c3]; rw [decide_eq_true c3] at hN; exact Of_num s w (by omega) t0 t1 t2 hN
            · rw [if_neg c3]; rw [decide_eq_false c3] at hN; exact Of_num_none s w (by omega) t0 t1 t2 hN c1 c2

theorem inf_eq {x : Nat} (hx : x < 18446744073709551616) (h : infB x = true) : x = sgw (sg x) 9218868437227405312 := by
  unfold infB at h
  rw [beq_iff_eq] at h
  have e := word_self hx
  rw [h] at e
  rw [← e]
  cases sg x <;> decide +kernel
theorem whole_sw {x : Nat} (hx : x < 18446744073709551616) (hn : nanB x = false) (h0 : x ≠ 9223372036854775808) (h1 : small x = true) (h2 : whole x = true) : sw (if sg x then -(tr x : Int) else (tr x : Int)) = x := by
  have ht := small_tr h1
  unfold whole at h2
  rw [decide_eq_true_iff] at h2
  have e1 := (un_fl (t := tr x) (by omega)).1
  have e2 : rg x = fl (tr x) := un_inj (by rw [h2, e1])
  have e3 := word_self hx
  have hfl := (fl_word (t := tr x) true).2
  have key : ∀ b : Bool, b = sg x → wl b (tr x) = x := by
    rintro b rfl
    rw [(fl_word (t := tr x) (sg x)).1, Nat.mod_eq_of_lt hfl, ← e2]; exact e3
  unfold sw
  by_cases hz : tr x = 0
  · have hr : rg x = 0 := by rw [e2, hz]; exact fl_zero
    cases hs : sg x with
    | false =>
      rw [if_neg (by simp), decide_eq_false (by omega), Int.natAbs_natCast]; exact key false hs.symm
    | true =>
      exfalso; apply h0
      rw [← e3, hs, hr]; decide +kernel
  · cases hs : sg x with
    | false =>
      rw [if_neg (by simp), decide_eq_false (by omega), Int.natAbs_natCast]; exact key false hs.symm
    | true =>
      rw [if_pos rfl, decide_eq_true (by omega), Int.natAbs_neg, Int.natAbs_natCast]; exact key true hs.symm
theorem dec_pos (m : Nat) : 1 ≤ (Lib.decDigits m).length := by
  obtain ⟨c, t, e, _⟩ := dec_head m
  rw [e]; simp
theorem ofL_int (n : Int) (h : n.natAbs < 1000000000000000) : ofL (Lib.itoa n) = (sw n, true) := by
  have hdg := dec_isDig
  by_cases hn : n < 0
  · obtain ⟨m, rfl⟩ : ∃ m : Nat, n = -(m : Int) := ⟨n.natAbs, by omega⟩
    have hm : 0 < m := by omega
    have hl := dec_len 14 m (by omega)
    have hp1 := dec_pos m
    rw [itoa_neg hm, sw_neg hm]
    unfold ofL
    rw [if_neg (by intro e; simp only [List.take_succ_cons] at e; have := (List.cons.inj e).1; exact absurd this (by decide)), if_pos (by simp), List.drop_one, List.tail_cons]
    unfold ofB
    rw [if_neg (by intro e; have := hdg m 105 (by rw [e]; simp); exact absurd this (by decide)), if_neg (by intro e; have := hdg m 110 (by rw [e]; simp); exact absurd this (by decide)), if_pos ⟨hp1, by omega, List.all_eq_true.2 (hdg m)⟩, dval_dec]
  · obtain ⟨m, rfl⟩ : ∃ m : Nat, n = (m : Int) := ⟨n.toNat, by omega⟩
    have hl := dec_len 14 m (by omega)
    have hp1 := dec_pos m
    rw [itoa_nat, sw_nat]
    have no1 : ∀ c : UInt8, isDig c = false → ∀ k, (Lib.decDigits m).take k ≠ [c] := by
      intro c hc k e
      have := hdg m c (List.mem_of_mem_take (by rw [e]; simp))
      rw [this] at hc; cases hc
    unfold ofL
    rw [if_neg (by intro e; have := hdg m 120 (List.mem_of_mem_take (by rw [e]; simp)); exact absurd this (by decide)), if_neg (no1 45 (by decide) 1), if_neg (no1 43 (by decide) 1)]
    unfold ofB
    rw [if_neg (by intro e; have := hdg m 105 (by rw [e]; simp); exact absurd this (by decide)), if_neg (by intro e; have := hdg m 110 (by rw [e]; simp); exact absurd this (by decide)), if_pos ⟨hp1, by omega, List.all_eq_true.2 (hdg m)⟩, dval_dec]
theorem ofL_hex {x : Nat} {l : Bs} (hn : nanB x = false) (h1 : l.length = 16) (h2 : allHx l = true) (h3 : hval l = x) : ofL ([48, 120] ++ l) = (if (false : Bool) = true then nanW else x, true) := by
  have e : ofL ([48, 120] ++ l) = bitsL l := by
    unfold ofL
    rw [if_pos (by simp)]; simp
  rw [e, bitsL, if_pos ⟨h1, h2⟩, h3]
  unfold cl
  rw [hn]
theorem ofL_text {x : Nat} (hX : x < 18446744073709551616) : ofL (textL x) = (cl x, true) := by
  unfold textL cl
  cases hn : nanB x with
  | true => rw [if_pos rfl, if_pos rfl]; rfl
  | false =>
    rw [if_neg (show ¬ (false = true) by decide), if_neg (show ¬ (false = true) by decide)]
    cases hi : infB x with
    | true =>
      rw [if_pos rfl]
      have e := inf_eq hX hi
      cases hs : sg x with
      | true => rw [if_pos rfl]; rw [hs] at e; exact Prod.ext e.symm rfl
      | false => rw [if_neg (show ¬ (false = true) by decide)]; rw [hs] at e; exact Prod.ext e.symm rfl
    | false =>
      rw [if_neg (show ¬ (false = true) by decide)]
      by_cases h0 : x = 9223372036854775808
      · rw [if_pos h0, h0]; decide +kernel
      · rw [if_neg h0]
        by_cases hc : (small x && whole x) = true
        · rw [if_pos hc]
          obtain ⟨c1, c2⟩ := Bool.and_eq_true_iff.1 hc
          have ht := small_tr c1
          rw [ofL_int _ (by split <;> omega), whole_sw hX hn h0 c1 c2]
        · rw [if_neg hc]
          obtain ⟨l, hl⟩ : ∃ l, hx 16 x = l := ⟨_, rfl⟩
          have h1 : l.length = 16 := by rw [← hl]; exact hx_len 16 x
          have h2 : allHx l = true := by
            unfold allHx; rw [List.all_eq_true, ← hl]; intro c hc2; simpa using hx_hv 16 x c hc2
          have h3 : hval l = x := by rw [← hl]; exact hval_hx 16 x (by simpa using hX)
          rw [hl]
          exact ofL_hex hn h1 h2 h3
theorem textL_len {x : Nat} (hX : x < 18446744073709551616) : (textL x).length ≤ 1000 := by
  unfold textL
  split
  · simp
  · split
    · split <;> simp
    · split
      · simp
      · split
        · rename_i hc
          obtain ⟨c1, c2⟩ := Bool.and_eq_true_iff.1 hc
          have ht := small_tr c1
          by_cases hs : (if sg x then -(tr x : Int) else (tr x : Int)) < 0
          · obtain ⟨m, hm⟩ : ∃ m : Nat, (if sg x then -(tr x : Int) else (tr x : Int)) = -(m : Int) := ⟨tr x, by split at hs <;> simp_all; omega⟩
            have hm2 : m = tr x := by split at hm <;> omega
            rw [hm, itoa_neg (by omega)]
            have := dec_len 14 m (by omega)
            simp; omega
          · obtain ⟨m, hm⟩ : ∃ m : Nat, (if sg x then -(tr x : Int) else (tr x : Int)) = (m : Int) := ⟨(if sg x then -(tr x : Int) else (tr x : Int)).toNat, by omega⟩
            have hm2 : m ≤ tr x := by split at hm <;> omega
            rw [hm, itoa_nat]
            have := dec_len 14 m (by omega)
            omega
        · simp [hx_len]
end Go.Proofs.YtcmjpkfinbakkaaGreatDoor.Fl
