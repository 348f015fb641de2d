import Derived.Test.YtgmoggpnfabjfaaDoorF
namespace Go.Proofs.YtgmoggpnfabjfaaDoor
open Go.RowKit
set_option linter.unusedVariables false

theorem okB_long {a b : Int} (h : ¬ (a.natAbs < 1000000000000000000 ∧ b.natAbs < 1000000000000000000)) : okB a b = false := by
  unfold okB
  rw [Bool.eq_false_iff]
  intro hh
  rw [Bool.and_eq_true, decide_eq_true_iff, decide_eq_true_iff] at hh
  exact h hh
theorem okB_short {a b : Int} (h : a.natAbs < 1000000000000000000 ∧ b.natAbs < 1000000000000000000) : okB a b = true := by
  unfold okB
  rw [Bool.and_eq_true, decide_eq_true_iff, decide_eq_true_iff]
  exact h
theorem itoa_size (n : Int) (h1 : -9223372036854775808 ≤ n) (h2 : n < 9223372036854775808) : (⟨(Lib.itoa n).toArray⟩ : ByteArray).size ≤ 20 := by
  show (Lib.itoa n).length ≤ 20
  by_cases h : n < 0
  · have e := itoa_neg (n := n.natAbs) (by omega)
    rw [show -(n.natAbs : Int) = n by omega] at e
    rw [e]
    have := dec_len 18 n.natAbs (by omega)
    simp only [List.length_cons]; omega
  · have e := itoa_nat n.natAbs
    rw [show (n.natAbs : Int) = n by omega] at e
    rw [e]
    have := dec_len 18 n.natAbs (by omega)
    omega
set_option maxRecDepth 100000 in
set_option maxHeartbeats 2000000 in
theorem numbers_out (a b k : Int) (h : k < 0 ∨ 6 ≤ k) (w : World) : Calls Tryd.prog 3 #[.int .i64 a, .int .i64 b, .int .i64 k] w fun e w' => e = .returned (.bool true) ∧ Below w.heap.size w w' := by
  have HA := Lib.hid alive_any
  rcases h with h | h
  · have hd : decide (k < 0) = true := decide_eq_true h
    go_enter Tryd.func3, Tryd.ntmps3
    go_wp2_with fail
    refine (HA.out _).mono ?_
    rintro e w1 ⟨rfl, hB1⟩
    have HB1 := Lib.hid hB1
    clear hB1
    simp only []
    go_wp2_with fail
    go_ret
    exact ⟨rfl, HB1.out.alloc HB1.out.size _⟩
  · have hd : decide (k < 0) = false := decide_eq_false (by omega)
    have hd2 : decide ((6 : Int) ≤ k) = true := decide_eq_true h
    go_enter Tryd.func3, Tryd.ntmps3
    go_wp2_with fail
    refine (HA.out _).mono ?_
    rintro e w1 ⟨rfl, hB1⟩
    have HB1 := Lib.hid hB1
    clear hB1
    simp only []
    go_wp2_with fail
    go_ret
    exact ⟨rfl, HB1.out.alloc HB1.out.size _⟩

set_option maxRecDepth 100000 in
set_option maxHeartbeats 4000000 in
theorem numbers_eq (a b : Int) (h1 : -9223372036854775808 ≤ a) (h2 : a < 9223372036854775808) (h3 : -9223372036854775808 ≤ b) (h4 : b < 9223372036854775808) (w : World) :
    Calls Tryd.prog 3 #[.int .i64 a, .int .i64 b, .int .i64 0] w fun e w' => e = .returned (.bool true) ∧ Below w.heap.size w w' := by
  have HA := Lib.hid alive_any
  have HN := Lib.hid New_00
  have HK := Lib.hid num_any
  have hia := RefInt_all a h1 h2
  have hib := RefInt_all b h3 h4
  have ht := fun pv cwd B cap w => test_eq pv cwd a b B cap w h1 h2 h3 h4
  have za := itoa_size a h1 h2
  have zb := itoa_size b h3 h4
  obtain ⟨A, hA⟩ : ∃ S : ByteArray, ⟨(Lib.itoa a).toArray⟩ = S := ⟨_, rfl⟩
  obtain ⟨C, hC⟩ : ∃ S : ByteArray, ⟨(Lib.itoa b).toArray⟩ = S := ⟨_, rfl⟩
  rw [hA] at hia ht za
  rw [hC] at hib ht zb
  obtain ⟨lg, hlg, hways⟩ : ∃ lg : Bool, okB a b = !lg ∧ ((lg = true ∧ ((999999999999999999 < a) ∨ (a ≤ 999999999999999999 ∧ a < -999999999999999999) ∨ (a ≤ 999999999999999999 ∧ -999999999999999999 ≤ a ∧ 999999999999999999 < b) ∨ (a ≤ 999999999999999999 ∧ -999999999999999999 ≤ a ∧ b ≤ 999999999999999999 ∧ b < -999999999999999999))) ∨ (lg = false ∧ a ≤ 999999999999999999 ∧ -999999999999999999 ≤ a ∧ b ≤ 999999999999999999 ∧ -999999999999999999 ≤ b)) := by
    by_cases hs : a.natAbs < 1000000000000000000 ∧ b.natAbs < 1000000000000000000
    · exact ⟨false, okB_short hs, .inr ⟨rfl, by omega, by omega, by omega, by omega⟩⟩
    · refine ⟨true, okB_long hs, .inl ⟨rfl, by omega⟩⟩
  rw [hlg] at ht
  have HIA := Lib.hid hia
  have HIC := Lib.hid hib
  have HT := Lib.hid ht
  obtain ⟨R, hR⟩ : ∃ R : Bool, (a == b) = R := ⟨_, rfl⟩
  have HT2 : Hid (∀ (pv : Option Addr) (cwd : ByteArray) (B cap : Nat) (w : World), w.cell? ⟨B, 0, none⟩ = some (.string A) → w.cell? ⟨B, 1, none⟩ = some (.string ⟨#[45, 101, 113]⟩) → w.cell? ⟨B, 2, none⟩ = some (.string C) → Calls Tryd.prog 6 #[.pointer pv, .string cwd, .slice (some ⟨B, 0, none⟩) 3 cap] w fun e w' => e = .returned (.tuple #[.bool (!lg && R), .int .i64 (if !lg then 0 else 2)]) ∧ Below w.heap.size w w') := by
    rw [← hR]; exact HT.out
  have HW := Lib.hid hways
  have HRR := Lib.hid hR
  clear hia hib ht HT hA hC hlg hways h1 h2 h3 h4 hR
  go_enter Tryd.func3, Tryd.ntmps3
  go_wp2_with fail
  refine (HA.out _).mono ?_
  rintro e w1 ⟨rfl, hB1⟩
  have HB1 := Lib.hid hB1
  clear hB1
  simp only []
  have hR := HRR.out
  go_wp2_with fail
  refine (HN.out _).mono ?_
  rintro e w2 ⟨rfl, hB2⟩
  have hz1 := HB1.out.size
  have hz2 : w1.heap.size + 2 ≤ w2.heap.size := by have := hB2.size; simp at this; omega
  have co : w2.cell? ⟨w1.heap.size, 0, none⟩ = some (.string ⟨#[45, 101, 113]⟩) := (hB2.cell (p := ⟨w1.heap.size, 0, none⟩) (by simp; omega)).trans (by simp)
  have cw : w2.cell? ⟨w1.heap.size + 1, 0, none⟩ = some (.bool R) := (hB2.cell (p := ⟨w1.heap.size + 1, 0, none⟩) (by simp)).trans (by simp [World.cell?_alloc_at])
  have HB2 := Lib.hid (((HB1.out.alloc hz1 _).alloc (by simp; omega) _).trans (hB2.mono (by simp; omega)))
  clear hB2
  simp only []
  go_wp2_with fail
  refine wp_region_made 9 2 96 _ (by kernel_rfl) (by kernel_rfl) (by kernel_rfl) (Nat.le_refl 96) rfl ?_
  have HB2b : Hid (Below w.heap.size w w2.drew) := Below.drew HB2.out
  have co2 : w2.drew.cell? ⟨w1.heap.size, 0, none⟩ = some (.string ⟨#[45, 101, 113]⟩) := co
  have cw2 : w2.drew.cell? ⟨w1.heap.size + 1, 0, none⟩ = some (.bool R) := cw
  have hz3 : w1.heap.size + 2 ≤ w2.drew.heap.size := hz2
  clear co cw hz2
  obtain ⟨fp, hfp⟩ : ∃ fp : Option Addr, some ⟨w1.heap.size + 1 + 1, 0, none⟩ = fp := ⟨_, rfl⟩
  generalize w2.drew = wz at HB2b co2 cw2 hz3 ⊢
  have c11 : ∀ b : One wz, b.v.cell? ⟨w1.heap.size, 0, none⟩ = some (.string ⟨#[45, 101, 113]⟩) := fun b => by rw [b.h]; exact co2
  have HC1 : Hid (∀ b : One wz, Calls Tryd.prog 7 #[.int .i64 a] b.v fun e w' => e = .returned (.string A) ∧ ∃ b' : One wz, w' = b'.v) := fun b => (HIA.out b.v).mono fun e w' ⟨he, hw⟩ => ⟨he, b, hw⟩
  have HC2 : Hid (∀ b' : One wz, Calls Tryd.prog 7 #[.int .i64 b] b'.v fun e w' => e = .returned (.string C) ∧ ∃ b' : One wz, w' = b'.v) := fun b => (HIC.out b.v).mono fun e w' ⟨he, hw⟩ => ⟨he, b, hw⟩
  unfold isOne
  simp only [List.take_succ_cons, List.take_zero, List.drop_succ_cons, List.drop_zero]
  repeat (go_big_quiet_step (first | with_reducible exact HC1.out _ | with_reducible exact HC2.out _))
  refine wpQuiet_nil ?_
  refine ⟨by kernel_rfl, .slice (some ⟨wz.heap.size, 0, none⟩) 3 3, wz.alloc (.cells #[.string A, .string ⟨#[45, 101, 113]⟩, .string C] 9), ?_, ?_, ?_⟩
  · go_simp
  · have e1 : (wz.alloc (.cells #[.string A, .string ⟨#[45, 101, 113]⟩, .string C] 9)).cell? ⟨w1.heap.size, 0, none⟩ = some (.string ⟨#[45, 101, 113]⟩) := by rw [World.cell?_alloc_lt (h := by show w1.heap.size < _; omega)]; exact co2
    generalize wz.alloc (.cells #[.string A, .string ⟨#[45, 101, 113]⟩, .string C] 9) = wy at e1 ⊢
    have c12 : ∀ b : One wy, b.v.cell? ⟨w1.heap.size, 0, none⟩ = some (.string ⟨#[45, 101, 113]⟩) := fun b => by rw [b.h]; exact e1
    have HD1 : Hid (∀ b : One wy, Calls Tryd.prog 7 #[.int .i64 a] b.v fun e w' => e = .returned (.string A) ∧ ∃ b' : One wy, w' = b'.v) := fun b => (HIA.out b.v).mono fun e w' ⟨he, hw⟩ => ⟨he, b, hw⟩
    have HD2 : Hid (∀ b' : One wy, Calls Tryd.prog 7 #[.int .i64 b] b'.v fun e w' => e = .returned (.string C) ∧ ∃ b' : One wy, w' = b'.v) := fun b => (HIC.out b.v).mono fun e w' ⟨he, hw⟩ => ⟨he, b, hw⟩
    clear e1 c11 HC1 HC2
    repeat (go_big_quiet_step (first | with_reducible exact HD1.out _ | with_reducible exact HD2.out _))
    exact wpQuiet_nil rfl
  clear c11 HC1 HC2
  go_wp2_with fail
  refine (HT2.out _ _ _ _ _ (by simp) (by simp) (by simp)).mono ?_
  rintro e w5 ⟨rfl, hB5⟩
  have cw5 : w5.cell? ⟨w1.heap.size + 1, 0, none⟩ = some (.bool R) := by
    rw [hB5.cell (p := ⟨w1.heap.size + 1, 0, none⟩) (by simp; omega), World.cell?_alloc_lt (h := by show w1.heap.size + 1 < _; omega)]
    exact cw2
  have HB5 := Lib.hid ((HB2b.out.alloc HB2b.out.size _).trans (hB5.mono (by have := HB2b.out.size; simp; omega)))
  clear hB5 co2 cw2
  simp only []
  rcases HW.out with ⟨hl, hw⟩ | ⟨hl, q1, q2, q3, q4⟩
  · have hlg := hl
    subst hlg
    rcases hw with d1 | ⟨d1, d2⟩ | ⟨d1, d2, d3⟩ | ⟨d1, d2, d3, d4⟩
    all_goals
      go_wp2_with fail
      show wpQuiet _ _ _ _ _ _
      repeat (go_big_quiet_step (fail))
      refine wpQuiet_nil ?_
      go_wp2_with (go_at_call 8; refine (HK.out _ _).mono ?_; rintro e w' ⟨rfl, rfl⟩)
      go_ret
      exact ⟨by simp, HB5.out⟩
  · have hlg := hl
    subst hlg
    cases R
    all_goals
      go_wp2_with fail
      show wpQuiet _ _ _ _ _ _
      repeat (go_big_quiet_step (fail))
      refine wpQuiet_nil ?_
      go_wp2_with (go_at_call 8; refine (HK.out _ _).mono ?_; rintro e w' ⟨rfl, rfl⟩)
      go_ret
      exact ⟨by simp, HB5.out⟩

set_option maxRecDepth 100000 in
set_option maxHeartbeats 4000000 in
theorem numbers_ne (a b : Int) (h1 : -9223372036854775808 ≤ a) (h2 : a < 9223372036854775808) (h3 : -9223372036854775808 ≤ b) (h4 : b < 9223372036854775808) (w : World) :
    Calls Tryd.prog 3 #[.int .i64 a, .int .i64 b, .int .i64 1] w fun e w' => e = .returned (.bool true) ∧ Below w.heap.size w w' := by
  have HA := Lib.hid alive_any
  have HN := Lib.hid New_00
  have HK := Lib.hid num_any
  have hia := RefInt_all a h1 h2
  have hib := RefInt_all b h3 h4
  have ht := fun pv cwd B cap w => test_ne pv cwd a b B cap w h1 h2 h3 h4
  have za := itoa_size a h1 h2
  have zb := itoa_size b h3 h4
  obtain ⟨A, hA⟩ : ∃ S : ByteArray, ⟨(Lib.itoa a).toArray⟩ = S := ⟨_, rfl⟩
  obtain ⟨C, hC⟩ : ∃ S : ByteArray, ⟨(Lib.itoa b).toArray⟩ = S := ⟨_, rfl⟩
  rw [hA] at hia ht za
  rw [hC] at hib ht zb
  obtain ⟨lg, hlg, hways⟩ : ∃ lg : Bool, okB a b = !lg ∧ ((lg = true ∧ ((999999999999999999 < a) ∨ (a ≤ 999999999999999999 ∧ a < -999999999999999999) ∨ (a ≤ 999999999999999999 ∧ -999999999999999999 ≤ a ∧ 999999999999999999 < b) ∨ (a ≤ 999999999999999999 ∧ -999999999999999999 ≤ a ∧ b ≤ 999999999999999999 ∧ b < -999999999999999999))) ∨ (lg = false ∧ a ≤ 999999999999999999 ∧ -999999999999999999 ≤ a ∧ b ≤ 999999999999999999 ∧ -999999999999999999 ≤ b)) := by
    by_cases hs : a.natAbs < 1000000000000000000 ∧ b.natAbs < 1000000000000000000
    · exact ⟨false, okB_short hs, .inr ⟨rfl, by omega, by omega, by omega, by omega⟩⟩
    · refine ⟨true, okB_long hs, .inl ⟨rfl, by omega⟩⟩
  rw [hlg] at ht
  have HIA := Lib.hid hia
  have HIC := Lib.hid hib
  have HT := Lib.hid ht
  obtain ⟨R, hR⟩ : ∃ R : Bool, (a != b) = R := ⟨_, rfl⟩
  have HT2 : Hid (∀ (pv : Option Addr) (cwd : ByteArray) (B cap : Nat) (w : World), w.cell? ⟨B, 0, none⟩ = some (.string A) → w.cell? ⟨B, 1, none⟩ = some (.string ⟨#[45, 110, 101]⟩) → w.cell? ⟨B, 2, none⟩ = some (.string C) → Calls Tryd.prog 6 #[.pointer pv, .string cwd, .slice (some ⟨B, 0, none⟩) 3 cap] w fun e w' => e = .returned (.tuple #[.bool (!lg && R), .int .i64 (if !lg then 0 else 2)]) ∧ Below w.heap.size w w') := by
    rw [← hR]; exact HT.out
  have HW := Lib.hid hways
  have HRR := Lib.hid hR
  clear hia hib ht HT hA hC hlg hways h1 h2 h3 h4 hR
  go_enter Tryd.func3, Tryd.ntmps3
  go_wp2_with fail
  refine (HA.out _).mono ?_
  rintro e w1 ⟨rfl, hB1⟩
  have HB1 := Lib.hid hB1
  clear hB1
  simp only []
  have hR := HRR.out
  go_wp2_with fail
  refine (HN.out _).mono ?_
  rintro e w2 ⟨rfl, hB2⟩
  have hz1 := HB1.out.size
  have hz2 : w1.heap.size + 2 ≤ w2.heap.size := by have := hB2.size; simp at this; omega
  have co : w2.cell? ⟨w1.heap.size, 1, none⟩ = some (.string ⟨#[45, 110, 101]⟩) := (hB2.cell (p := ⟨w1.heap.size, 1, none⟩) (by simp; omega)).trans (by simp)
  have cw : w2.cell? ⟨w1.heap.size + 1, 1, none⟩ = some (.bool R) := (hB2.cell (p := ⟨w1.heap.size + 1, 1, none⟩) (by simp)).trans (by simp [World.cell?_alloc_at])
  have HB2 := Lib.hid (((HB1.out.alloc hz1 _).alloc (by simp; omega) _).trans (hB2.mono (by simp; omega)))
  clear hB2
  simp only []
  go_wp2_with fail
  refine wp_region_made 9 2 96 _ (by kernel_rfl) (by kernel_rfl) (by kernel_rfl) (Nat.le_refl 96) rfl ?_
  have HB2b : Hid (Below w.heap.size w w2.drew) := Below.drew HB2.out
  have co2 : w2.drew.cell? ⟨w1.heap.size, 1, none⟩ = some (.string ⟨#[45, 110, 101]⟩) := co
  have cw2 : w2.drew.cell? ⟨w1.heap.size + 1, 1, none⟩ = some (.bool R) := cw
  have hz3 : w1.heap.size + 2 ≤ w2.drew.heap.size := hz2
  clear co cw hz2
  obtain ⟨fp, hfp⟩ : ∃ fp : Option Addr, some ⟨w1.heap.size + 1 + 1, 0, none⟩ = fp := ⟨_, rfl⟩
  generalize w2.drew = wz at HB2b co2 cw2 hz3 ⊢
  have c11 : ∀ b : One wz, b.v.cell? ⟨w1.heap.size, 1, none⟩ = some (.string ⟨#[45, 110, 101]⟩) := fun b => by rw [b.h]; exact co2
  have HC1 : Hid (∀ b : One wz, Calls Tryd.prog 7 #[.int .i64 a] b.v fun e w' => e = .returned (.string A) ∧ ∃ b' : One wz, w' = b'.v) := fun b => (HIA.out b.v).mono fun e w' ⟨he, hw⟩ => ⟨he, b, hw⟩
  have HC2 : Hid (∀ b' : One wz, Calls Tryd.prog 7 #[.int .i64 b] b'.v fun e w' => e = .returned (.string C) ∧ ∃ b' : One wz, w' = b'.v) := fun b => (HIC.out b.v).mono fun e w' ⟨he, hw⟩ => ⟨he, b, hw⟩
  unfold isOne
  simp only [List.take_succ_cons, List.take_zero, List.drop_succ_cons, List.drop_zero]
  repeat (go_big_quiet_step (first | with_reducible exact HC1.out _ | with_reducible exact HC2.out _))
  refine wpQuiet_nil ?_
  refine ⟨by kernel_rfl, .slice (some ⟨wz.heap.size, 0, none⟩) 3 3, wz.alloc (.cells #[.string A, .string ⟨#[45, 110, 101]⟩, .string C] 9), ?_, ?_, ?_⟩
  · go_simp
  · have e1 : (wz.alloc (.cells #[.string A, .string ⟨#[45, 110, 101]⟩, .string C] 9)).cell? ⟨w1.heap.size, 1, none⟩ = some (.string ⟨#[45, 110, 101]⟩) := by rw [World.cell?_alloc_lt (h := by show w1.heap.size < _; omega)]; exact co2
    generalize wz.alloc (.cells #[.string A, .string ⟨#[45, 110, 101]⟩, .string C] 9) = wy at e1 ⊢
    have c12 : ∀ b : One wy, b.v.cell? ⟨w1.heap.size, 1, none⟩ = some (.string ⟨#[45, 110, 101]⟩) := fun b => by rw [b.h]; exact e1
    have HD1 : Hid (∀ b : One wy, Calls Tryd.prog 7 #[.int .i64 a] b.v fun e w' => e = .returned (.string A) ∧ ∃ b' : One wy, w' = b'.v) := fun b => (HIA.out b.v).mono fun e w' ⟨he, hw⟩ => ⟨he, b, hw⟩
    have HD2 : Hid (∀ b' : One wy, Calls Tryd.prog 7 #[.int .i64 b] b'.v fun e w' => e = .returned (.string C) ∧ ∃ b' : One wy, w' = b'.v) := fun b => (HIC.out b.v).mono fun e w' ⟨he, hw⟩ => ⟨he, b, hw⟩
    clear e1 c11 HC1 HC2
    repeat (go_big_quiet_step (first | with_reducible exact HD1.out _ | with_reducible exact HD2.out _))
    exact wpQuiet_nil rfl
  clear c11 HC1 HC2
  go_wp2_with fail
  refine (HT2.out _ _ _ _ _ (by simp) (by simp) (by simp)).mono ?_
  rintro e w5 ⟨rfl, hB5⟩
  have cw5 : w5.cell? ⟨w1.heap.size + 1, 1, none⟩ = some (.bool R) := by
    rw [hB5.cell (p := ⟨w1.heap.size + 1, 1, none⟩) (by simp; omega), World.cell?_alloc_lt (h := by show w1.heap.size + 1 < _; omega)]
    exact cw2
  have HB5 := Lib.hid ((HB2b.out.alloc HB2b.out.size _).trans (hB5.mono (by have := HB2b.out.size; simp; omega)))
  clear hB5 co2 cw2
  simp only []
  rcases HW.out with ⟨hl, hw⟩ | ⟨hl, q1, q2, q3, q4⟩
  · have hlg := hl
    subst hlg
    rcases hw with d1 | ⟨d1, d2⟩ | ⟨d1, d2, d3⟩ | ⟨d1, d2, d3, d4⟩
    all_goals
      go_wp2_with fail
      show wpQuiet _ _ _ _ _ _
      repeat (go_big_quiet_step (fail))
      refine wpQuiet_nil ?_
      go_wp2_with (go_at_call 8; refine (HK.out _ _).mono ?_; rintro e w' ⟨rfl, rfl⟩)
      go_ret
      exact ⟨by simp, HB5.out⟩
  · have hlg := hl
    subst hlg
    cases R
    all_goals
      go_wp2_with fail
      show wpQuiet _ _ _ _ _ _
      repeat (go_big_quiet_step (fail))
      refine wpQuiet_nil ?_
      go_wp2_with (go_at_call 8; refine (HK.out _ _).mono ?_; rintro e w' ⟨rfl, rfl⟩)
      go_ret
      exact ⟨by simp, HB5.out⟩

set_option maxRecDepth 100000 in
set_option maxHeartbeats 4000000 in
theorem numbers_lt (a b : Int) (h1 : -9223372036854775808 ≤ a) (h2 : a < 9223372036854775808) (h3 : -9223372036854775808 ≤ b) (h4 : b < 9223372036854775808) (w : World) :
    Calls Tryd.prog 3 #[.int .i64 a, .int .i64 b, .int .i64 2] w fun e w' => e = .returned (.bool true) ∧ Below w.heap.size w w' := by
  have HA := Lib.hid alive_any
  have HN := Lib.hid New_00
  have HK := Lib.hid num_any
  have hia := RefInt_all a h1 h2
  have hib := RefInt_all b h3 h4
  have ht := fun pv cwd B cap w => test_lt pv cwd a b B cap w h1 h2 h3 h4
  have za := itoa_size a h1 h2
  have zb := itoa_size b h3 h4
  obtain ⟨A, hA⟩ : ∃ S : ByteArray, ⟨(Lib.itoa a).toArray⟩ = S := ⟨_, rfl⟩
  obtain ⟨C, hC⟩ : ∃ S : ByteArray, ⟨(Lib.itoa b).toArray⟩ = S := ⟨_, rfl⟩
  rw [hA] at hia ht za
  rw [hC] at hib ht zb
  obtain ⟨lg, hlg, hways⟩ : ∃ lg : Bool, okB a b = !lg ∧ ((lg = true ∧ ((999999999999999999 < a) ∨ (a ≤ 999999999999999999 ∧ a < -999999999999999999) ∨ (a ≤ 999999999999999999 ∧ -999999999999999999 ≤ a ∧ 999999999999999999 < b) ∨ (a ≤ 999999999999999999 ∧ -999999999999999999 ≤ a ∧ b ≤ 999999999999999999 ∧ b < -999999999999999999))) ∨ (lg = false ∧ a ≤ 999999999999999999 ∧ -999999999999999999 ≤ a ∧ b ≤ 999999999999999999 ∧ -999999999999999999 ≤ b)) := by
    by_cases hs : a.natAbs < 1000000000000000000 ∧ b.natAbs < 1000000000000000000
    · exact ⟨false, okB_short hs, .inr ⟨rfl, by omega, by omega, by omega, by omega⟩⟩
    · refine ⟨true, okB_long hs, .inl ⟨rfl, by omega⟩⟩
  rw [hlg] at ht
  have HIA := Lib.hid hia
  have HIC := Lib.hid hib
  have HT := Lib.hid ht
  obtain ⟨R, hR⟩ : ∃ R : Bool, decide (a < b) = R := ⟨_, rfl⟩
  have HT2 : Hid (∀ (pv : Option Addr) (cwd : ByteArray) (B cap : Nat) (w : World), w.cell? ⟨B, 0, none⟩ = some (.string A) → w.cell? ⟨B, 1, none⟩ = some (.string ⟨#[45, 108, 116]⟩) → w.cell? ⟨B, 2, none⟩ = some (.string C) → Calls Tryd.prog 6 #[.pointer pv, .string cwd, .slice (some ⟨B, 0, none⟩) 3 cap] w fun e w' => e = .returned (.tuple #[.bool (!lg && R), .int .i64 (if !lg then 0 else 2)]) ∧ Below w.heap.size w w') := by
    rw [← hR]; exact HT.out
  have HW := Lib.hid hways
  have HRR := Lib.hid hR
  clear hia hib ht HT hA hC hlg hways h1 h2 h3 h4 hR
  go_enter Tryd.func3, Tryd.ntmps3
  go_wp2_with fail
  refine (HA.out _).mono ?_
  rintro e w1 ⟨rfl, hB1⟩
  have HB1 := Lib.hid hB1
  clear hB1
  simp only []
  have hR := HRR.out
  go_wp2_with fail
  refine (HN.out _).mono ?_
  rintro e w2 ⟨rfl, hB2⟩
  have hz1 := HB1.out.size
  have hz2 : w1.heap.size + 2 ≤ w2.heap.size := by have := hB2.size; simp at this; omega
  have co : w2.cell? ⟨w1.heap.size, 2, none⟩ = some (.string ⟨#[45, 108, 116]⟩) := (hB2.cell (p := ⟨w1.heap.size, 2, none⟩) (by simp; omega)).trans (by simp)
  have cw : w2.cell? ⟨w1.heap.size + 1, 2, none⟩ = some (.bool R) := (hB2.cell (p := ⟨w1.heap.size + 1, 2, none⟩) (by simp)).trans (by simp [World.cell?_alloc_at])
  have HB2 := Lib.hid (((HB1.out.alloc hz1 _).alloc (by simp; omega) _).trans (hB2.mono (by simp; omega)))
  clear hB2
  simp only []
  go_wp2_with fail
  refine wp_region_made 9 2 96 _ (by kernel_rfl) (by kernel_rfl) (by kernel_rfl) (Nat.le_refl 96) rfl ?_
  have HB2b : Hid (Below w.heap.size w w2.drew) := Below.drew HB2.out
  have co2 : w2.drew.cell? ⟨w1.heap.size, 2, none⟩ = some (.string ⟨#[45, 108, 116]⟩) := co
  have cw2 : w2.drew.cell? ⟨w1.heap.size + 1, 2, none⟩ = some (.bool R) := cw
  have hz3 : w1.heap.size + 2 ≤ w2.drew.heap.size := hz2
  clear co cw hz2
  obtain ⟨fp, hfp⟩ : ∃ fp : Option Addr, some ⟨w1.heap.size + 1 + 1, 0, none⟩ = fp := ⟨_, rfl⟩
  generalize w2.drew = wz at HB2b co2 cw2 hz3 ⊢
  have c11 : ∀ b : One wz, b.v.cell? ⟨w1.heap.size, 2, none⟩ = some (.string ⟨#[45, 108, 116]⟩) := fun b => by rw [b.h]; exact co2
  have HC1 : Hid (∀ b : One wz, Calls Tryd.prog 7 #[.int .i64 a] b.v fun e w' => e = .returned (.string A) ∧ ∃ b' : One wz, w' = b'.v) := fun b => (HIA.out b.v).mono fun e w' ⟨he, hw⟩ => ⟨he, b, hw⟩
  have HC2 : Hid (∀ b' : One wz, Calls Tryd.prog 7 #[.int .i64 b] b'.v fun e w' => e = .returned (.string C) ∧ ∃ b' : One wz, w' = b'.v) := fun b => (HIC.out b.v).mono fun e w' ⟨he, hw⟩ => ⟨he, b, hw⟩
  unfold isOne
  simp only [List.take_succ_cons, List.take_zero, List.drop_succ_cons, List.drop_zero]
  repeat (go_big_quiet_step (first | with_reducible exact HC1.out _ | with_reducible exact HC2.out _))
  refine wpQuiet_nil ?_
  refine ⟨by kernel_rfl, .slice (some ⟨wz.heap.size, 0, none⟩) 3 3, wz.alloc (.cells #[.string A, .string ⟨#[45, 108, 116]⟩, .string C] 9), ?_, ?_, ?_⟩
  · go_simp
  · have e1 : (wz.alloc (.cells #[.string A, .string ⟨#[45, 108, 116]⟩, .string C] 9)).cell? ⟨w1.heap.size, 2, none⟩ = some (.string ⟨#[45, 108, 116]⟩) := by rw [World.cell?_alloc_lt (h := by show w1.heap.size < _; omega)]; exact co2
    generalize wz.alloc (.cells #[.string A, .string ⟨#[45, 108, 116]⟩, .string C] 9) = wy at e1 ⊢
    have c12 : ∀ b : One wy, b.v.cell? ⟨w1.heap.size, 2, none⟩ = some (.string ⟨#[45, 108, 116]⟩) := fun b => by rw [b.h]; exact e1
    have HD1 : Hid (∀ b : One wy, Calls Tryd.prog 7 #[.int .i64 a] b.v fun e w' => e = .returned (.string A) ∧ ∃ b' : One wy, w' = b'.v) := fun b => (HIA.out b.v).mono fun e w' ⟨he, hw⟩ => ⟨he, b, hw⟩
    have HD2 : Hid (∀ b' : One wy, Calls Tryd.prog 7 #[.int .i64 b] b'.v fun e w' => e = .returned (.string C) ∧ ∃ b' : One wy, w' = b'.v) := fun b => (HIC.out b.v).mono fun e w' ⟨he, hw⟩ => ⟨he, b, hw⟩
    clear e1 c11 HC1 HC2
    repeat (go_big_quiet_step (first | with_reducible exact HD1.out _ | with_reducible exact HD2.out _))
    exact wpQuiet_nil rfl
  clear c11 HC1 HC2
  go_wp2_with fail
  refine (HT2.out _ _ _ _ _ (by simp) (by simp) (by simp)).mono ?_
  rintro e w5 ⟨rfl, hB5⟩
  have cw5 : w5.cell? ⟨w1.heap.size + 1, 2, none⟩ = some (.bool R) := by
    rw [hB5.cell (p := ⟨w1.heap.size + 1, 2, none⟩) (by simp; omega), World.cell?_alloc_lt (h := by show w1.heap.size + 1 < _; omega)]
    exact cw2
  have HB5 := Lib.hid ((HB2b.out.alloc HB2b.out.size _).trans (hB5.mono (by have := HB2b.out.size; simp; omega)))
  clear hB5 co2 cw2
  simp only []
  rcases HW.out with ⟨hl, hw⟩ | ⟨hl, q1, q2, q3, q4⟩
  · have hlg := hl
    subst hlg
    rcases hw with d1 | ⟨d1, d2⟩ | ⟨d1, d2, d3⟩ | ⟨d1, d2, d3, d4⟩
    all_goals
      go_wp2_with fail
      show wpQuiet _ _ _ _ _ _
      repeat (go_big_quiet_step (fail))
      refine wpQuiet_nil ?_
      go_wp2_with (go_at_call 8; refine (HK.out _ _).mono ?_; rintro e w' ⟨rfl, rfl⟩)
      go_ret
      exact ⟨by simp, HB5.out⟩
  · have hlg := hl
    subst hlg
    cases R
    all_goals
      go_wp2_with fail
      show wpQuiet _ _ _ _ _ _
      repeat (go_big_quiet_step (fail))
      refine wpQuiet_nil ?_
      go_wp2_with (go_at_call 8; refine (HK.out _ _).mono ?_; rintro e w' ⟨rfl, rfl⟩)
      go_ret
      exact ⟨by simp, HB5.out⟩

set_option maxRecDepth 100000 in
set_option maxHeartbeats 4000000 in
theorem numbers_le (a b : Int) (h1 : -9223372036854775808 ≤ a) (h2 : a < 9223372036854775808) (h3 : -9223372036854775808 ≤ b) (h4 : b < 9223372036854775808) (w : World) :
    Calls Tryd.prog 3 #[.int .i64 a, .int .i64 b, .int .i64 3] w fun e w' => e = .returned (.bool true) ∧ Below w.heap.size w w' := by
  have HA := Lib.hid alive_any
  have HN := Lib.hid New_00
  have HK := Lib.hid num_any
  have hia := RefInt_all a h1 h2
  have hib := RefInt_all b h3 h4
  have ht := fun pv cwd B cap w => test_le pv cwd a b B cap w h1 h2 h3 h4
  have za := itoa_size a h1 h2
  have zb := itoa_size b h3 h4
  obtain ⟨A, hA⟩ : ∃ S : ByteArray, ⟨(Lib.itoa a).toArray⟩ = S := ⟨_, rfl⟩
  obtain ⟨C, hC⟩ : ∃ S : ByteArray, ⟨(Lib.itoa b).toArray⟩ = S := ⟨_, rfl⟩
  rw [hA] at hia ht za
  rw [hC] at hib ht zb
  obtain ⟨lg, hlg, hways⟩ : ∃ lg : Bool, okB a b = !lg ∧ ((lg = true ∧ ((999999999999999999 < a) ∨ (a ≤ 999999999999999999 ∧ a < -999999999999999999) ∨ (a ≤ 999999999999999999 ∧ -999999999999999999 ≤ a ∧ 999999999999999999 < b) ∨ (a ≤ 999999999999999999 ∧ -999999999999999999 ≤ a ∧ b ≤ 999999999999999999 ∧ b < -999999999999999999))) ∨ (lg = false ∧ a ≤ 999999999999999999 ∧ -999999999999999999 ≤ a ∧ b ≤ 999999999999999999 ∧ -999999999999999999 ≤ b)) := by
    by_cases hs : a.natAbs < 1000000000000000000 ∧ b.natAbs < 1000000000000000000
    · exact ⟨false, okB_short hs, .inr ⟨rfl, by omega, by omega, by omega, by omega⟩⟩
    · refine ⟨true, okB_long hs, .inl ⟨rfl, by omega⟩⟩
  rw [hlg] at ht
  have HIA := Lib.hid hia
  have HIC := Lib.hid hib
  have HT := Lib.hid ht
  obtain ⟨R, hR⟩ : ∃ R : Bool, decide (a ≤ b) = R := ⟨_, rfl⟩
  have HT2 : Hid (∀ (pv : Option Addr) (cwd : ByteArray) (B cap : Nat) (w : World), w.cell? ⟨B, 0, none⟩ = some (.string A) → w.cell? ⟨B, 1, none⟩ = some (.string ⟨#[45, 108, 101]⟩) → w.cell? ⟨B, 2, none⟩ = some (.string C) → Calls Tryd.prog 6 #[.pointer pv, .string cwd, .slice (some ⟨B, 0, none⟩) 3 cap] w fun e w' => e = .returned (.tuple #[.bool (!lg && R), .int .i64 (if !lg then 0 else 2)]) ∧ Below w.heap.size w w') := by
    rw [← hR]; exact HT.out
  have HW := Lib.hid hways
  have HRR := Lib.hid hR
  clear hia hib ht HT hA hC hlg hways h1 h2 h3 h4 hR
  go_enter Tryd.func3, Tryd.ntmps3
  go_wp2_with fail
  refine (HA.out _).mono ?_
  rintro e w1 ⟨rfl, hB1⟩
  have HB1 := Lib.hid hB1
  clear hB1
  simp only []
  have hR := HRR.out
  go_wp2_with fail
  refine (HN.out _).mono ?_
  rintro e w2 ⟨rfl, hB2⟩
  have hz1 := HB1.out.size
  have hz2 : w1.heap.size + 2 ≤ w2.heap.size := by have := hB2.size; simp at this; omega
  have co : w2.cell? ⟨w1.heap.size, 3, none⟩ = some (.string ⟨#[45, 108, 101]⟩) := (hB2.cell (p := ⟨w1.heap.size, 3, none⟩) (by simp; omega)).trans (by simp)
  have cw : w2.cell? ⟨w1.heap.size + 1, 3, none⟩ = some (.bool R) := (hB2.cell (p := ⟨w1.heap.size + 1, 3, none⟩) (by simp)).trans (by simp [World.cell?_alloc_at])
  have HB2 := Lib.hid (((HB1.out.alloc hz1 _).alloc (by simp; omega) _).trans (hB2.mono (by simp; omega)))
  clear hB2
  simp only []
  go_wp2_with fail
  refine wp_region_made 9 2 96 _ (by kernel_rfl) (by kernel_rfl) (by kernel_rfl) (Nat.le_refl 96) rfl ?_
  have HB2b : Hid (Below w.heap.size w w2.drew) := Below.drew HB2.out
  have co2 : w2.drew.cell? ⟨w1.heap.size, 3, none⟩ = some (.string ⟨#[45, 108, 101]⟩) := co
  have cw2 : w2.drew.cell? ⟨w1.heap.size + 1, 3, none⟩ = some (.bool R) := cw
  have hz3 : w1.heap.size + 2 ≤ w2.drew.heap.size := hz2
  clear co cw hz2
  obtain ⟨fp, hfp⟩ : ∃ fp : Option Addr, some ⟨w1.heap.size + 1 + 1, 0, none⟩ = fp := ⟨_, rfl⟩
  generalize w2.drew = wz at HB2b co2 cw2 hz3 ⊢
  have c11 : ∀ b : One wz, b.v.cell? ⟨w1.heap.size, 3, none⟩ = some (.string ⟨#[45, 108, 101]⟩) := fun b => by rw [b.h]; exact co2
  have HC1 : Hid (∀ b : One wz, Calls Tryd.prog 7 #[.int .i64 a] b.v fun e w' => e = .returned (.string A) ∧ ∃ b' : One wz, w' = b'.v) := fun b => (HIA.out b.v).mono fun e w' ⟨he, hw⟩ => ⟨he, b, hw⟩
  have HC2 : Hid (∀ b' : One wz, Calls Tryd.prog 7 #[.int .i64 b] b'.v fun e w' => e = .returned (.string C) ∧ ∃ b' : One wz, w' = b'.v) := fun b => (HIC.out b.v).mono fun e w' ⟨he, hw⟩ => ⟨he, b, hw⟩
  unfold isOne
  simp only [List.take_succ_cons, List.take_zero, List.drop_succ_cons, List.drop_zero]
  repeat (go_big_quiet_step (first | with_reducible exact HC1.out _ | with_reducible exact HC2.out _))
  refine wpQuiet_nil ?_
  refine ⟨by kernel_rfl, .slice (some ⟨wz.heap.size, 0, none⟩) 3 3, wz.alloc (.cells #[.string A, .string ⟨#[45, 108, 101]⟩, .string C] 9), ?_, ?_, ?_⟩
  · go_simp
  · have e1 : (wz.alloc (.cells #[.string A, .string ⟨#[45, 108, 101]⟩, .string C] 9)).cell? ⟨w1.heap.size, 3, none⟩ = some (.string ⟨#[45, 108, 101]⟩) := by rw [World.cell?_alloc_lt (h := by show w1.heap.size < _; omega)]; exact co2
    generalize wz.alloc (.cells #[.string A, .string ⟨#[45, 108, 101]⟩, .string C] 9) = wy at e1 ⊢
    have c12 : ∀ b : One wy, b.v.cell? ⟨w1.heap.size, 3, none⟩ = some (.string ⟨#[45, 108, 101]⟩) := fun b => by rw [b.h]; exact e1
    have HD1 : Hid (∀ b : One wy, Calls Tryd.prog 7 #[.int .i64 a] b.v fun e w' => e = .returned (.string A) ∧ ∃ b' : One wy, w' = b'.v) := fun b => (HIA.out b.v).mono fun e w' ⟨he, hw⟩ => ⟨he, b, hw⟩
    have HD2 : Hid (∀ b' : One wy, Calls Tryd.prog 7 #[.int .i64 b] b'.v fun e w' => e = .returned (.string C) ∧ ∃ b' : One wy, w' = b'.v) := fun b => (HIC.out b.v).mono fun e w' ⟨he, hw⟩ => ⟨he, b, hw⟩
    clear e1 c11 HC1 HC2
    repeat (go_big_quiet_step (first | with_reducible exact HD1.out _ | with_reducible exact HD2.out _))
    exact wpQuiet_nil rfl
  clear c11 HC1 HC2
  go_wp2_with fail
  refine (HT2.out _ _ _ _ _ (by simp) (by simp) (by simp)).mono ?_
  rintro e w5 ⟨rfl, hB5⟩
  have cw5 : w5.cell? ⟨w1.heap.size + 1, 3, none⟩ = some (.bool R) := by
    rw [hB5.cell (p := ⟨w1.heap.size + 1, 3, none⟩) (by simp; omega), World.cell?_alloc_lt (h := by show w1.heap.size + 1 < _; omega)]
    exact cw2
  have HB5 := Lib.hid ((HB2b.out.alloc HB2b.out.size _).trans (hB5.mono (by have := HB2b.out.size; simp; omega)))
  clear hB5 co2 cw2
  simp only []
  rcases HW.out with ⟨hl, hw⟩ | ⟨hl, q1, q2, q3, q4⟩
  · have hlg := hl
    subst hlg
    rcases hw with d1 | ⟨d1, d2⟩ | ⟨d1, d2, d3⟩ | ⟨d1, d2, d3, d4⟩
    all_goals
      go_wp2_with fail
      show wpQuiet _ _ _ _ _ _
      repeat (go_big_quiet_step (fail))
      refine wpQuiet_nil ?_
      go_wp2_with (go_at_call 8; refine (HK.out _ _).mono ?_; rintro e w' ⟨rfl, rfl⟩)
      go_ret
      exact ⟨by simp, HB5.out⟩
  · have hlg := hl
    subst hlg
    cases R
    all_goals
      go_wp2_with fail
      show wpQuiet _ _ _ _ _ _
      repeat (go_big_quiet_step (fail))
      refine wpQuiet_nil ?_
      go_wp2_with (go_at_call 8; refine (HK.out _ _).mono ?_; rintro e w' ⟨rfl, rfl⟩)
      go_ret
      exact ⟨by simp, HB5.out⟩

set_option maxRecDepth 100000 in
set_option maxHeartbeats 4000000 in
theorem numbers_gt (a b : Int) (h1 : -9223372036854775808 ≤ a) (h2 : a < 9223372036854775808) (h3 : -9223372036854775808 ≤ b) (h4 : b < 9223372036854775808) (w : World) :
    Calls Tryd.prog 3 #[.int .i64 a, .int .i64 b, .int .i64 4] w fun e w' => e = .returned (.bool true) ∧ Below w.heap.size w w' := by
  have HA := Lib.hid alive_any
  have HN := Lib.hid New_00
  have HK := Lib.hid num_any
  have hia := RefInt_all a h1 h2
  have hib := RefInt_all b h3 h4
  have ht := fun pv cwd B cap w => test_gt pv cwd a b B cap w h1 h2 h3 h4
  have za := itoa_size a h1 h2
  have zb := itoa_size b h3 h4
  obtain ⟨A, hA⟩ : ∃ S : ByteArray, ⟨(Lib.itoa a).toArray⟩ = S := ⟨_, rfl⟩
  obtain ⟨C, hC⟩ : ∃ S : ByteArray, ⟨(Lib.itoa b).toArray⟩ = S := ⟨_, rfl⟩
  rw [hA] at hia ht za
  rw [hC] at hib ht zb
  obtain ⟨lg, hlg, hways⟩ : ∃ lg : Bool, okB a b = !lg ∧ ((lg = true ∧ ((999999999999999999 < a) ∨ (a ≤ 999999999999999999 ∧ a < -999999999999999999) ∨ (a ≤ 999999999999999999 ∧ -999999999999999999 ≤ a ∧ 999999999999999999 < b) ∨ (a ≤ 999999999999999999 ∧ -999999999999999999 ≤ a ∧ b ≤ 999999999999999999 ∧ b < -999999999999999999))) ∨ (lg = false ∧ a ≤ 999999999999999999 ∧ -999999999999999999 ≤ a ∧ b ≤ 999999999999999999 ∧ -999999999999999999 ≤ b)) := by
    by_cases hs : a.natAbs < 1000000000000000000 ∧ b.natAbs < 1000000000000000000
    · exact ⟨false, okB_short hs, .inr ⟨rfl, by omega, by omega, by omega, by omega⟩⟩
    · refine ⟨true, okB_long hs, .inl ⟨rfl, by omega⟩⟩
  rw [hlg] at ht
  have HIA := Lib.hid hia
  have HIC := Lib.hid hib
  have HT := Lib.hid ht
  obtain ⟨R, hR⟩ : ∃ R : Bool, decide (b < a) = R := ⟨_, rfl⟩
  have HT2 : Hid (∀ (pv : Option Addr) (cwd : ByteArray) (B cap : Nat) (w : World), w.cell? ⟨B, 0, none⟩ = some (.string A) → w.cell? ⟨B, 1, none⟩ = some (.string ⟨#[45, 103, 116]⟩) → w.cell? ⟨B, 2, none⟩ = some (.string C) → Calls Tryd.prog 6 #[.pointer pv, .string cwd, .slice (some ⟨B, 0, none⟩) 3 cap] w fun e w' => e = .returned (.tuple #[.bool (!lg && R), .int .i64 (if !lg then 0 else 2)]) ∧ Below w.heap.size w w') := by
    rw [← hR]; exact HT.out
  have HW := Lib.hid hways
  have HRR := Lib.hid hR
  clear hia hib ht HT hA hC hlg hways h1 h2 h3 h4 hR
  go_enter Tryd.func3, Tryd.ntmps3
  go_wp2_with fail
  refine (HA.out _).mono ?_
  rintro e w1 ⟨rfl, hB1⟩
  have HB1 := Lib.hid hB1
  clear hB1
  simp only []
  have hR := HRR.out
  go_wp2_with fail
  refine (HN.out _).mono ?_
  rintro e w2 ⟨rfl, hB2⟩
  have hz1 := HB1.out.size
  have hz2 : w1.heap.size + 2 ≤ w2.heap.size := by have := hB2.size; simp at this; omega
  have co : w2.cell? ⟨w1.heap.size, 4, none⟩ = some (.string ⟨#[45, 103, 116]⟩) := (hB2.cell (p := ⟨w1.heap.size, 4, none⟩) (by simp; omega)).trans (by simp)
  have cw : w2.cell? ⟨w1.heap.size + 1, 4, none⟩ = some (.bool R) := (hB2.cell (p := ⟨w1.heap.size + 1, 4, none⟩) (by simp)).trans (by simp [World.cell?_alloc_at])
  have HB2 := Lib.hid (((HB1.out.alloc hz1 _).alloc (by simp; omega) _).trans (hB2.mono (by simp; omega)))
  clear hB2
  simp only []
  go_wp2_with fail
  refine wp_region_made 9 2 96 _ (by kernel_rfl) (by kernel_rfl) (by kernel_rfl) (Nat.le_refl 96) rfl ?_
  have HB2b : Hid (Below w.heap.size w w2.drew) := Below.drew HB2.out
  have co2 : w2.drew.cell? ⟨w1.heap.size, 4, none⟩ = some (.string ⟨#[45, 103, 116]⟩) := co
  have cw2 : w2.drew.cell? ⟨w1.heap.size + 1, 4, none⟩ = some (.bool R) := cw
  have hz3 : w1.heap.size + 2 ≤ w2.drew.heap.size := hz2
  clear co cw hz2
  obtain ⟨fp, hfp⟩ : ∃ fp : Option Addr, some ⟨w1.heap.size + 1 + 1, 0, none⟩ = fp := ⟨_, rfl⟩
  generalize w2.drew = wz at HB2b co2 cw2 hz3 ⊢
  have c11 : ∀ b : One wz, b.v.cell? ⟨w1.heap.size, 4, none⟩ = some (.string ⟨#[45, 103, 116]⟩) := fun b => by rw [b.h]; exact co2
  have HC1 : Hid (∀ b : One wz, Calls Tryd.prog 7 #[.int .i64 a] b.v fun e w' => e = .returned (.string A) ∧ ∃ b' : One wz, w' = b'.v) := fun b => (HIA.out b.v).mono fun e w' ⟨he, hw⟩ => ⟨he, b, hw⟩
  have HC2 : Hid (∀ b' : One wz, Calls Tryd.prog 7 #[.int .i64 b] b'.v fun e w' => e = .returned (.string C) ∧ ∃ b' : One wz, w' = b'.v) := fun b => (HIC.out b.v).mono fun e w' ⟨he, hw⟩ => ⟨he, b, hw⟩
  unfold isOne
  simp only [List.take_succ_cons, List.take_zero, List.drop_succ_cons, List.drop_zero]
  repeat (go_big_quiet_step (first | with_reducible exact HC1.out _ | with_reducible exact HC2.out _))
  refine wpQuiet_nil ?_
  refine ⟨by kernel_rfl, .slice (some ⟨wz.heap.size, 0, none⟩) 3 3, wz.alloc (.cells #[.string A, .string ⟨#[45, 103, 116]⟩, .string C] 9), ?_, ?_, ?_⟩
  · go_simp
  · have e1 : (wz.alloc (.cells #[.string A, .string ⟨#[45, 103, 116]⟩, .string C] 9)).cell? ⟨w1.heap.size, 4, none⟩ = some (.string ⟨#[45, 103, 116]⟩) := by rw [World.cell?_alloc_lt (h := by show w1.heap.size < _; omega)]; exact co2
    generalize wz.alloc (.cells #[.string A, .string ⟨#[45, 103, 116]⟩, .string C] 9) = wy at e1 ⊢
    have c12 : ∀ b : One wy, b.v.cell? ⟨w1.heap.size, 4, none⟩ = some (.string ⟨#[45, 103, 116]⟩) := fun b => by rw [b.h]; exact e1
    have HD1 : Hid (∀ b : One wy, Calls Tryd.prog 7 #[.int .i64 a] b.v fun e w' => e = .returned (.string A) ∧ ∃ b' : One wy, w' = b'.v) := fun b => (HIA.out b.v).mono fun e w' ⟨he, hw⟩ => ⟨he, b, hw⟩
    have HD2 : Hid (∀ b' : One wy, Calls Tryd.prog 7 #[.int .i64 b] b'.v fun e w' => e = .returned (.string C) ∧ ∃ b' : One wy, w' = b'.v) := fun b => (HIC.out b.v).mono fun e w' ⟨he, hw⟩ => ⟨he, b, hw⟩
    clear e1 c11 HC1 HC2
    repeat (go_big_quiet_step (first | with_reducible exact HD1.out _ | with_reducible exact HD2.out _))
    exact wpQuiet_nil rfl
  clear c11 HC1 HC2
  go_wp2_with fail
  refine (HT2.out _ _ _ _ _ (by simp) (by simp) (by simp)).mono ?_
  rintro e w5 ⟨rfl, hB5⟩
  have cw5 : w5.cell? ⟨w1.heap.size + 1, 4, none⟩ = some (.bool R) := by
    rw [hB5.cell (p := ⟨w1.heap.size + 1, 4, none⟩) (by simp; omega), World.cell?_alloc_lt (h := by show w1.heap.size + 1 < _; omega)]
    exact cw2
  have HB5 := Lib.hid ((HB2b.out.alloc HB2b.out.size _).trans (hB5.mono (by have := HB2b.out.size; simp; omega)))
  clear hB5 co2 cw2
  simp only []
  rcases HW.out with ⟨hl, hw⟩ | ⟨hl, q1, q2, q3, q4⟩
  · have hlg := hl
    subst hlg
    rcases hw with d1 | ⟨d1, d2⟩ | ⟨d1, d2, d3⟩ | ⟨d1, d2, d3, d4⟩
    all_goals
      go_wp2_with fail
      show wpQuiet _ _ _ _ _ _
      repeat (go_big_quiet_step (fail))
      refine wpQuiet_nil ?_
      go_wp2_with (go_at_call 8; refine (HK.out _ _).mono ?_; rintro e w' ⟨rfl, rfl⟩)
      go_ret
      exact ⟨by simp, HB5.out⟩
  · have hlg := hl
    subst hlg
    cases R
    all_goals
      go_wp2_with fail
      show wpQuiet _ _ _ _ _ _
      repeat (go_big_quiet_step (fail))
      refine wpQuiet_nil ?_
      go_wp2_with (go_at_call 8; refine (HK.out _ _).mono ?_; rintro e w' ⟨rfl, rfl⟩)
      go_ret
      exact ⟨by simp, HB5.out⟩

set_option maxRecDepth 100000 in
set_option maxHeartbeats 4000000 in
theorem numbers_ge (a b : Int) (h1 : -9223372036854775808 ≤ a) (h2 : a < 9223372036854775808) (h3 : -9223372036854775808 ≤ b) (h4 : b < 9223372036854775808) (w : World) :
    Calls Tryd.prog 3 #[.int .i64 a, .int .i64 b, .int .i64 5] w fun e w' => e = .returned (.bool true) ∧ Below w.heap.size w w' := by
  have HA := Lib.hid alive_any
  have HN := Lib.hid New_00
  have HK := Lib.hid num_any
  have hia := RefInt_all a h1 h2
  have hib := RefInt_all b h3 h4
  have ht := fun pv cwd B cap w => test_ge pv cwd a b B cap w h1 h2 h3 h4
  have za := itoa_size a h1 h2
  have zb := itoa_size b h3 h4
  obtain ⟨A, hA⟩ : ∃ S : ByteArray, ⟨(Lib.itoa a).toArray⟩ = S := ⟨_, rfl⟩
  obtain ⟨C, hC⟩ : ∃ S : ByteArray, ⟨(Lib.itoa b).toArray⟩ = S := ⟨_, rfl⟩
  rw [hA] at hia ht za
  rw [hC] at hib ht zb
  obtain ⟨lg, hlg, hways⟩ : ∃ lg : Bool, okB a b = !lg ∧ ((lg = true ∧ ((999999999999999999 < a) ∨ (a ≤ 999999999999999999 ∧ a < -999999999999999999) ∨ (a ≤ 999999999999999999 ∧ -999999999999999999 ≤ a ∧ 999999999999999999 < b) ∨ (a ≤ 999999999999999999 ∧ -999999999999999999 ≤ a ∧ b ≤ 999999999999999999 ∧ b < -999999999999999999))) ∨ (lg = false ∧ a ≤ 999999999999999999 ∧ -999999999999999999 ≤ a ∧ b ≤ 999999999999999999 ∧ -999999999999999999 ≤ b)) := by
    by_cases hs : a.natAbs < 1000000000000000000 ∧ b.natAbs < 1000000000000000000
    · exact ⟨false, okB_short hs, .inr ⟨rfl, by omega, by omega, by omega, by omega⟩⟩
    · refine ⟨true, okB_long hs, .inl ⟨rfl, by omega⟩⟩
  rw [hlg] at ht
  have HIA := Lib.hid hia
  have HIC := Lib.hid hib
  have HT := Lib.hid ht
  obtain ⟨R, hR⟩ : ∃ R : Bool, decide (b ≤ a) = R := ⟨_, rfl⟩
  have HT2 : Hid (∀ (pv : Option Addr) (cwd : ByteArray) (B cap : Nat) (w : World), w.cell? ⟨B, 0, none⟩ = some (.string A) → w.cell? ⟨B, 1, none⟩ = some (.string ⟨#[45, 103, 101]⟩) → w.cell? ⟨B, 2, none⟩ = some (.string C) → Calls Tryd.prog 6 #[.pointer pv, .string cwd, .slice (some ⟨B, 0, none⟩) 3 cap] w fun e w' => e = .returned (.tuple #[.bool (!lg && R), .int .i64 (if !lg then 0 else 2)]) ∧ Below w.heap.size w w') := by
    rw [← hR]; exact HT.out
  have HW := Lib.hid hways
  have HRR := Lib.hid hR
  clear hia hib ht HT hA hC hlg hways h1 h2 h3 h4 hR
  go_enter Tryd.func3, Tryd.ntmps3
  go_wp2_with fail
  refine (HA.out _).mono ?_
  rintro e w1 ⟨rfl, hB1⟩
  have HB1 := Lib.hid hB1
  clear hB1
  simp only []
  have hR := HRR.out
  go_wp2_with fail
  refine (HN.out _).mono ?_
  rintro e w2 ⟨rfl, hB2⟩
  have hz1 := HB1.out.size
  have hz2 : w1.heap.size + 2 ≤ w2.heap.size := by have := hB2.size; simp at this; omega
  have co : w2.cell? ⟨w1.heap.size, 5, none⟩ = some (.string ⟨#[45, 103, 101]⟩) := (hB2.cell (p := ⟨w1.heap.size, 5, none⟩) (by simp; omega)).trans (by simp)
  have cw : w2.cell? ⟨w1.heap.size + 1, 5, none⟩ = some (.bool R) := (hB2.cell (p := ⟨w1.heap.size + 1, 5, none⟩) (by simp)).trans (by simp [World.cell?_alloc_at])
  have HB2 := Lib.hid (((HB1.out.alloc hz1 _).alloc (by simp; omega) _).trans (hB2.mono (by simp; omega)))
  clear hB2
  simp only []
  go_wp2_with fail
  refine wp_region_made 9 2 96 _ (by kernel_rfl) (by kernel_rfl) (by kernel_rfl) (Nat.le_refl 96) rfl ?_
  have HB2b : Hid (Below w.heap.size w w2.drew) := Below.drew HB2.out
  have co2 : w2.drew.cell? ⟨w1.heap.size, 5, none⟩ = some (.string ⟨#[45, 103, 101]⟩) := co
  have cw2 : w2.drew.cell? ⟨w1.heap.size + 1, 5, none⟩ = some (.bool R) := cw
  have hz3 : w1.heap.size + 2 ≤ w2.drew.heap.size := hz2
  clear co cw hz2
  obtain ⟨fp, hfp⟩ : ∃ fp : Option Addr, some ⟨w1.heap.size + 1 + 1, 0, none⟩ = fp := ⟨_, rfl⟩
  generalize w2.drew = wz at HB2b co2 cw2 hz3 ⊢
  have c11 : ∀ b : One wz, b.v.cell? ⟨w1.heap.size, 5, none⟩ = some (.string ⟨#[45, 103, 101]⟩) := fun b => by rw [b.h]; exact co2
  have HC1 : Hid (∀ b : One wz, Calls Tryd.prog 7 #[.int .i64 a] b.v fun e w' => e = .returned (.string A) ∧ ∃ b' : One wz, w' = b'.v) := fun b => (HIA.out b.v).mono fun e w' ⟨he, hw⟩ => ⟨he, b, hw⟩
  have HC2 : Hid (∀ b' : One wz, Calls Tryd.prog 7 #[.int .i64 b] b'.v fun e w' => e = .returned (.string C) ∧ ∃ b' : One wz, w' = b'.v) := fun b => (HIC.out b.v).mono fun e w' ⟨he, hw⟩ => ⟨he, b, hw⟩
  unfold isOne
  simp only [List.take_succ_cons, List.take_zero, List.drop_succ_cons, List.drop_zero]
  repeat (go_big_quiet_step (first | with_reducible exact HC1.out _ | with_reducible exact HC2.out _))
  refine wpQuiet_nil ?_
  refine ⟨by kernel_rfl, .slice (some ⟨wz.heap.size, 0, none⟩) 3 3, wz.alloc (.cells #[.string A, .string ⟨#[45, 103, 101]⟩, .string C] 9), ?_, ?_, ?_⟩
  · go_simp
  · have e1 : (wz.alloc (.cells #[.string A, .string ⟨#[45, 103, 101]⟩, .string C] 9)).cell? ⟨w1.heap.size, 5, none⟩ = some (.string ⟨#[45, 103, 101]⟩) := by rw [World.cell?_alloc_lt (h := by show w1.heap.size < _; omega)]; exact co2
    generalize wz.alloc (.cells #[.string A, .string ⟨#[45, 103, 101]⟩, .string C] 9) = wy at e1 ⊢
    have c12 : ∀ b : One wy, b.v.cell? ⟨w1.heap.size, 5, none⟩ = some (.string ⟨#[45, 103, 101]⟩) := fun b => by rw [b.h]; exact e1
    have HD1 : Hid (∀ b : One wy, Calls Tryd.prog 7 #[.int .i64 a] b.v fun e w' => e = .returned (.string A) ∧ ∃ b' : One wy, w' = b'.v) := fun b => (HIA.out b.v).mono fun e w' ⟨he, hw⟩ => ⟨he, b, hw⟩
    have HD2 : Hid (∀ b' : One wy, Calls Tryd.prog 7 #[.int .i64 b] b'.v fun e w' => e = .returned (.string C) ∧ ∃ b' : One wy, w' = b'.v) := fun b => (HIC.out b.v).mono fun e w' ⟨he, hw⟩ => ⟨he, b, hw⟩
    clear e1 c11 HC1 HC2
    repeat (go_big_quiet_step (first | with_reducible exact HD1.out _ | with_reducible exact HD2.out _))
    exact wpQuiet_nil rfl
  clear c11 HC1 HC2
  go_wp2_with fail
  refine (HT2.out _ _ _ _ _ (by simp) (by simp) (by simp)).mono ?_
  rintro e w5 ⟨rfl, hB5⟩
  have cw5 : w5.cell? ⟨w1.heap.size + 1, 5, none⟩ = some (.bool R) := by
    rw [hB5.cell (p := ⟨w1.heap.size + 1, 5, none⟩) (by simp; omega), World.cell?_alloc_lt (h := by show w1.heap.size + 1 < _; omega)]
    exact cw2
  have HB5 := Lib.hid ((HB2b.out.alloc HB2b.out.size _).trans (hB5.mono (by have := HB2b.out.size; simp; omega)))
  clear hB5 co2 cw2
  simp only []
  rcases HW.out with ⟨hl, hw⟩ | ⟨hl, q1, q2, q3, q4⟩
  · have hlg := hl
    subst hlg
    rcases hw with d1 | ⟨d1, d2⟩ | ⟨d1, d2, d3⟩ | ⟨d1, d2, d3, d4⟩
    all_goals
      go_wp2_with fail
      show wpQuiet _ _ _ _ _ _
      repeat (go_big_quiet_step (fail))
      refine wpQuiet_nil ?_
      go_wp2_with (go_at_call 8; refine (HK.out _ _).mono ?_; rintro e w' ⟨rfl, rfl⟩)
      go_ret
      exact ⟨by simp, HB5.out⟩
  · have hlg := hl
    subst hlg
    cases R
    all_goals
      go_wp2_with fail
      show wpQuiet _ _ _ _ _ _
      repeat (go_big_quiet_step (fail))
      refine wpQuiet_nil ?_
      go_wp2_with (go_at_call 8; refine (HK.out _ _).mono ?_; rintro e w' ⟨rfl, rfl⟩)
      go_ret
      exact ⟨by simp, HB5.out⟩

end Go.Proofs.YtgmoggpnfabjfaaDoor