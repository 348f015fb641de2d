import Derived.Test.YtgmoggpnfabjfaaDoorE
namespace Go.Proofs.YtgmoggpnfabjfaaDoor
open Go.RowKit
set_option linter.unusedVariables false

set_option maxRecDepth 100000 in
set_option maxHeartbeats 1000000 in
theorem RefInt_all (n : Int) (h1 : -9223372036854775808 ≤ n) (h2 : n < 9223372036854775808) (w : World) :
    Calls Tryd.prog 7 #[.int .i64 n] w fun e w' => e = .returned (.string ⟨(Lib.itoa n).toArray⟩) ∧ w' = w := by
  by_cases h : n = -9223372036854775808
  · subst h
    obtain ⟨R, hR⟩ : ∃ R : ByteArray, ⟨(Lib.itoa (-9223372036854775808)).toArray⟩ = R := ⟨_, rfl⟩
    have hR2 : R = ⟨#[45, 57, 50, 50, 51, 51, 55, 50, 48, 51, 54, 56, 53, 52, 55, 55, 53, 56, 48, 56]⟩ := by rw [← hR]; decide +kernel
    rw [hR, hR2]
    clear hR hR2 h1 h2
    go_enter Tryd.func7, Tryd.ntmps7
    go_wp2_with fail
    go_ret
    exact ⟨rfl, rfl⟩
  · exact RefInt_any n (by omega) h2 w
theorem New_00 (w : World) : Calls Tryd.prog 5 #[.int .i64 0, .int .i64 0] w fun e w' => e = .returned (.pointer (some ⟨w.heap.size, 0, none⟩)) ∧ Below w.heap.size w w' := by
  go_enter Tryd.func5, Tryd.ntmps5
  go_wp2_with fail
  go_ret
  exact ⟨rfl, (Below.refl _ _).alloc (Nat.le_refl _) _⟩
theorem New_22 (w : World) : Calls Tryd.prog 5 #[.int .i64 2, .int .i64 2] w fun e w' => e = .returned (.pointer (some ⟨w.heap.size, 0, none⟩)) ∧ Below w.heap.size w w' := by
  go_enter Tryd.func5, Tryd.ntmps5
  go_wp2_with fail
  go_ret
  exact ⟨rfl, (Below.refl _ _).alloc (Nat.le_refl _) _⟩
theorem num_any (q : Int) (w : World) : Calls Tryd.prog 8 #[.int .i64 q] w fun e w' => e = .returned (.int .i64 q) ∧ w' = w := by
  go_enter Tryd.func8, Tryd.ntmps8
  go_wp2_with fail
  go_ret
  exact ⟨rfl, rfl⟩
set_option maxRecDepth 100000 in
set_option maxHeartbeats 1000000 in
theorem unary_z (pv : Option Addr) (cwd : ByteArray) (w : World) : Calls Tryd.prog 9 #[.agg #[.pointer pv, .string cwd], .string ⟨#[45, 122]⟩, .string ⟨#[]⟩] w fun e w' => e = .returned (.tuple #[.bool true, .int .i64 0]) ∧ Below w.heap.size w w' := by
  go_enter Tryd.func9, Tryd.ntmps9
  go_wp2_with fail
  go_ret2
  exact ⟨rfl, (Below.refl _ _).alloc (Nat.le_refl _) _⟩
set_option maxRecDepth 100000 in
set_option maxHeartbeats 1000000 in
theorem unary_n (pv : Option Addr) (cwd : ByteArray) (w : World) : Calls Tryd.prog 9 #[.agg #[.pointer pv, .string cwd], .string ⟨#[45, 110]⟩, .string ⟨#[]⟩] w fun e w' => e = .returned (.tuple #[.bool false, .int .i64 0]) ∧ Below w.heap.size w w' := by
  go_enter Tryd.func9, Tryd.ntmps9
  go_wp2_with fail
  go_ret2
  exact ⟨rfl, (Below.refl _ _).alloc (Nat.le_refl _) _⟩
set_option maxRecDepth 100000 in
set_option maxHeartbeats 2000000 in
theorem test2_any (pv : Option Addr) (cwd a op : ByteArray) (B cap : Nat) (r : Bool) (q : Int) (w : World)
    (c0 : w.cell? ⟨B, 0, none⟩ = some (.string op)) (c1 : w.cell? ⟨B, 1, none⟩ = some (.string a))
    (HH : ∀ w, Calls Tryd.prog 9 #[.agg #[.pointer pv, .string cwd], .string op, .string a] w fun e w' => e = .returned (.tuple #[.bool r, .int .i64 q]) ∧ Below w.heap.size w w') :
    Calls Tryd.prog 6 #[.pointer pv, .string cwd, .slice (some ⟨B, 0, none⟩) 2 cap] w fun e w' => e = .returned (.tuple #[.bool r, .int .i64 q]) ∧ Below w.heap.size w w' := by
  have hBl : B < w.heap.size := World.block_lt_of_cell? w ⟨B, 0, none⟩ c0
  have hne : B ≠ w.heap.size := by omega
  have HH' := Lib.hid HH
  clear HH
  go_enter Tryd.func6, Tryd.ntmps6
  go_wp2_with fail
  have hd0 : (w.alloc (.cells #[.pointer pv, .string cwd] 40)).drew.cell? ⟨B, 0, none⟩ = some (.string op) := by show (w.alloc _).cell? _ = _; rw [World.cell?_alloc_lt (h := hBl)]; exact c0
  have hd1 : (w.alloc (.cells #[.pointer pv, .string cwd] 40)).drew.cell? ⟨B, 1, none⟩ = some (.string a) := by show (w.alloc _).cell? _ = _; rw [World.cell?_alloc_lt (h := hBl)]; exact c1
  have hp0 : (w.alloc (.cells #[.pointer pv, .string cwd] 40)).drew.cell? ⟨w.heap.size, 0, none⟩ = some (.pointer pv) := by simp
  have hp1 : (w.alloc (.cells #[.pointer pv, .string cwd] 40)).drew.cell? ⟨w.heap.size, 1, none⟩ = some (.string cwd) := by simp
  have HB1 : Hid (Below w.heap.size w (w.alloc (.cells #[.pointer pv, .string cwd] 40)).drew) := Below.drew ((Below.refl _ _).alloc (Nat.le_refl _) _)
  refine wp_region_quiet_mid 7 1 (isOne (w.alloc (.cells #[.pointer pv, .string cwd] 40)).drew) (by kernel_rfl) (by kernel_rfl) ⟨⟨_, rfl⟩, rfl⟩ ?_
  generalize (w.alloc (.cells #[.pointer pv, .string cwd] 40)).drew = wz at hd0 hd1 hp0 hp1 HB1 ⊢
  have e0 : ∀ b : One wz, b.v.cell? ⟨B, 0, none⟩ = some (.string op) := fun b => by rw [b.h]; exact hd0
  have e1 : ∀ b : One wz, b.v.cell? ⟨B, 1, none⟩ = some (.string a) := fun b => by rw [b.h]; exact hd1
  have e3 : ∀ b : One wz, b.v.cell? ⟨w.heap.size, 0, none⟩ = some (.pointer pv) := fun b => by rw [b.h]; exact hp0
  have e4 : ∀ b : One wz, b.v.cell? ⟨w.heap.size, 1, none⟩ = some (.string cwd) := fun b => by rw [b.h]; exact hp1
  unfold isOne
  simp only [List.take_succ_cons, List.take_zero, List.drop_succ_cons, List.drop_zero]
  repeat (go_big_quiet_step (fail))
  refine wpQuiet_nil ?_
  rintro _ ⟨b3, rfl⟩
  obtain ⟨wy, hwy⟩ := b3
  subst hwy
  simp only []
  go_wp2_with fail
  refine (HH'.out _).mono ?_
  rintro e w5 ⟨rfl, hB5⟩
  have HB5 := Lib.hid (HB1.out.trans (hB5.mono HB1.out.size))
  clear hB5
  simp only []
  go_wp2_with fail
  show wpQuiet _ _ _ _ _ _
  repeat (go_big_quiet_step (fail))
  refine wpQuiet_nil ?_
  go_wp2_with fail
  go_ret2
  exact ⟨rfl, HB5.out⟩
set_option maxRecDepth 100000 in
set_option maxHeartbeats 2000000 in
theorem alive_any (w : World) : Calls Tryd.prog 4 #[] w fun e w' => e = .returned (.bool true) ∧ Below w.heap.size w w' := by
  have HN := Lib.hid New_22
  have HT := Lib.hid test2_any
  have HK := Lib.hid num_any
  go_enter Tryd.func4, Tryd.ntmps4
  go_wp2_with fail
  refine (HN.out _).mono ?_
  rintro e w1 ⟨rfl, hB1⟩
  have HB1 := Lib.hid hB1
  clear hB1
  simp only []
  go_wp2_with fail
  refine (HT.out _ _ _ _ _ _ _ _ _ (by simp) (by simp) (unary_z _ _)).mono ?_
  rintro e w2 ⟨rfl, hB2⟩
  have HB2 := Lib.hid ((HB1.out.alloc HB1.out.size _).trans (hB2.mono (by have := HB1.out.size; simp; omega)))
  clear hB2
  simp only []
  go_wp2_with fail
  refine (HT.out _ _ _ _ _ _ _ _ _ (by simp) (by simp) (unary_n _ _)).mono ?_
  rintro e w3 ⟨rfl, hB3⟩
  have HB3 := Lib.hid ((HB2.out.alloc HB2.out.size _).trans (hB3.mono (by have := HB2.out.size; simp; omega)))
  clear hB3
  simp only []
  go_wp2_with (go_at_call 8; refine (HK.out _ _).mono ?_; rintro e w' ⟨rfl, rfl⟩)
  go_ret
  exact ⟨rfl, HB3.out⟩
/-- Are both short enough? -/
def okB (a b : Int) : Bool := decide (a.natAbs < 1000000000000000000) && decide (b.natAbs < 1000000000000000000)


theorem test_eq (pv : Option Addr) (cwd : ByteArray) (a b : Int) (B cap : Nat) (w : World) (h1 : -9223372036854775808 ≤ a) (h2 : a < 9223372036854775808) (h3 : -9223372036854775808 ≤ b) (h4 : b < 9223372036854775808)
    (c0 : w.cell? ⟨B, 0, none⟩ = some (.string ⟨(Lib.itoa a).toArray⟩)) (c1 : w.cell? ⟨B, 1, none⟩ = some (.string ⟨#[45, 101, 113]⟩)) (c2 : w.cell? ⟨B, 2, none⟩ = some (.string ⟨(Lib.itoa b).toArray⟩)) :
    Calls Tryd.prog 6 #[.pointer pv, .string cwd, .slice (some ⟨B, 0, none⟩) 3 cap] w fun e w' => e = .returned (.tuple #[.bool (okB a b && (a == b)), .int .i64 (if okB a b then 0 else 2)]) ∧ Below w.heap.size w w' := by
  obtain ⟨x1, x2, HX, hx⟩ := read_int a h1 h2
  obtain ⟨y1, y2, HY, hy⟩ := read_int b h3 h4
  refine test3_any pv cwd _ _ _ B cap _ _ w c0 c1 c2 (isBinary_op _ (by simp)) (binary_any pv cwd _ _ _ x1 x2 y1 y2 _ _ ((a == b)) (by rw [Lib.toList_data]; decide) (by rw [Lib.toList_data]; decide) (by rw [Lib.toList_data]; decide) HX HY (fun k1 k2 w => ?_))
  obtain ⟨H, L, rfl, rfl, e1, f1, g1⟩ := hx (of_decide_eq_true k1)
  obtain ⟨G, M, rfl, rfl, e2, f2, g2⟩ := hy (of_decide_eq_true k2)
  obtain ⟨q1, q2⟩ := lex_lt e1 e2 f1 f2
  have hh := holds_eq _ _ _ _ _ _ _ _ (lt_sgw (t := H) (r := G) (by omega) (by omega) (decide (a < 0)) (decide (b < 0))) (eq_sgw (t := H) (r := G) (by omega) (by omega) (decide (a < 0)) (decide (b < 0))) (lt_sgw (t := L) (r := M) (by omega) (by omega) (decide (a < 0)) (decide (b < 0))) (eq_sgw (t := L) (r := M) (by omega) (by omega) (decide (a < 0)) (decide (b < 0)))
    (fun hlt => by rw [decide_eq_true_iff] at hlt; rw [decide_eq_false_iff_not]; omega) w
  rw [q2] at hh
  have hw : (a == b) = (a == b) := by
    first | rfl | (rw [Bool.eq_iff_iff]; simp; try omega)
  rw [hw] at hh
  exact hh


theorem test_ne (pv : Option Addr) (cwd : ByteArray) (a b : Int) (B cap : Nat) (w : World) (h1 : -9223372036854775808 ≤ a) (h2 : a < 9223372036854775808) (h3 : -9223372036854775808 ≤ b) (h4 : b < 9223372036854775808)
    (c0 : w.cell? ⟨B, 0, none⟩ = some (.string ⟨(Lib.itoa a).toArray⟩)) (c1 : w.cell? ⟨B, 1, none⟩ = some (.string ⟨#[45, 110, 101]⟩)) (c2 : w.cell? ⟨B, 2, none⟩ = some (.string ⟨(Lib.itoa b).toArray⟩)) :
    Calls Tryd.prog 6 #[.pointer pv, .string cwd, .slice (some ⟨B, 0, none⟩) 3 cap] w fun e w' => e = .returned (.tuple #[.bool (okB a b && (a != b)), .int .i64 (if okB a b then 0 else 2)]) ∧ Below w.heap.size w w' := by
  obtain ⟨x1, x2, HX, hx⟩ := read_int a h1 h2
  obtain ⟨y1, y2, HY, hy⟩ := read_int b h3 h4
  refine test3_any pv cwd _ _ _ B cap _ _ w c0 c1 c2 (isBinary_op _ (by simp)) (binary_any pv cwd _ _ _ x1 x2 y1 y2 _ _ ((a != b)) (by rw [Lib.toList_data]; decide) (by rw [Lib.toList_data]; decide) (by rw [Lib.toList_data]; decide) HX HY (fun k1 k2 w => ?_))
  obtain ⟨H, L, rfl, rfl, e1, f1, g1⟩ := hx (of_decide_eq_true k1)
  obtain ⟨G, M, rfl, rfl, e2, f2, g2⟩ := hy (of_decide_eq_true k2)
  obtain ⟨q1, q2⟩ := lex_lt e1 e2 f1 f2
  have hh := holds_ne _ _ _ _ _ _ _ _ (lt_sgw (t := H) (r := G) (by omega) (by omega) (decide (a < 0)) (decide (b < 0))) (eq_sgw (t := H) (r := G) (by omega) (by omega) (decide (a < 0)) (decide (b < 0))) (lt_sgw (t := L) (r := M) (by omega) (by omega) (decide (a < 0)) (decide (b < 0))) (eq_sgw (t := L) (r := M) (by omega) (by omega) (decide (a < 0)) (decide (b < 0)))
    (fun hlt => by rw [decide_eq_true_iff] at hlt; rw [decide_eq_false_iff_not]; omega) w
  rw [q2] at hh
  have hw : (!(a == b)) = (a != b) := by
    first | rfl | (rw [Bool.eq_iff_iff]; simp; try omega)
  rw [hw] at hh
  exact hh


theorem test_lt (pv : Option Addr) (cwd : ByteArray) (a b : Int) (B cap : Nat) (w : World) (h1 : -9223372036854775808 ≤ a) (h2 : a < 9223372036854775808) (h3 : -9223372036854775808 ≤ b) (h4 : b < 9223372036854775808)
    (c0 : w.cell? ⟨B, 0, none⟩ = some (.string ⟨(Lib.itoa a).toArray⟩)) (c1 : w.cell? ⟨B, 1, none⟩ = some (.string ⟨#[45, 108, 116]⟩)) (c2 : w.cell? ⟨B, 2, none⟩ = some (.string ⟨(Lib.itoa b).toArray⟩)) :
    Calls Tryd.prog 6 #[.pointer pv, .string cwd, .slice (some ⟨B, 0, none⟩) 3 cap] w fun e w' => e = .returned (.tuple #[.bool (okB a b && decide (a < b)), .int .i64 (if okB a b then 0 else 2)]) ∧ Below w.heap.size w w' := by
  obtain ⟨x1, x2, HX, hx⟩ := read_int a h1 h2
  obtain ⟨y1, y2, HY, hy⟩ := read_int b h3 h4
  refine test3_any pv cwd _ _ _ B cap _ _ w c0 c1 c2 (isBinary_op _ (by simp)) (binary_any pv cwd _ _ _ x1 x2 y1 y2 _ _ (decide (a < b)) (by rw [Lib.toList_data]; decide) (by rw [Lib.toList_data]; decide) (by rw [Lib.toList_data]; decide) HX HY (fun k1 k2 w => ?_))
  obtain ⟨H, L, rfl, rfl, e1, f1, g1⟩ := hx (of_decide_eq_true k1)
  obtain ⟨G, M, rfl, rfl, e2, f2, g2⟩ := hy (of_decide_eq_true k2)
  obtain ⟨q1, q2⟩ := lex_lt e1 e2 f1 f2
  have hh := holds_lt _ _ _ _ _ _ _ _ (lt_sgw (t := H) (r := G) (by omega) (by omega) (decide (a < 0)) (decide (b < 0))) (eq_sgw (t := H) (r := G) (by omega) (by omega) (decide (a < 0)) (decide (b < 0))) (lt_sgw (t := L) (r := M) (by omega) (by omega) (decide (a < 0)) (decide (b < 0))) (eq_sgw (t := L) (r := M) (by omega) (by omega) (decide (a < 0)) (decide (b < 0)))
    (fun hlt => by rw [decide_eq_true_iff] at hlt; rw [decide_eq_false_iff_not]; omega) w
  rw [q1] at hh
  have hw : decide (a < b) = decide (a < b) := by
    first | rfl | (rw [Bool.eq_iff_iff]; simp; try omega)
  rw [hw] at hh
  exact hh


theorem test_le (pv : Option Addr) (cwd : ByteArray) (a b : Int) (B cap : Nat) (w : World) (h1 : -9223372036854775808 ≤ a) (h2 : a < 9223372036854775808) (h3 : -9223372036854775808 ≤ b) (h4 : b < 9223372036854775808)
    (c0 : w.cell? ⟨B, 0, none⟩ = some (.string ⟨(Lib.itoa a).toArray⟩)) (c1 : w.cell? ⟨B, 1, none⟩ = some (.string ⟨#[45, 108, 101]⟩)) (c2 : w.cell? ⟨B, 2, none⟩ = some (.string ⟨(Lib.itoa b).toArray⟩)) :
    Calls Tryd.prog 6 #[.pointer pv, .string cwd, .slice (some ⟨B, 0, none⟩) 3 cap] w fun e w' => e = .returned (.tuple #[.bool (okB a b && decide (a ≤ b)), .int .i64 (if okB a b then 0 else 2)]) ∧ Below w.heap.size w w' := by
  obtain ⟨x1, x2, HX, hx⟩ := read_int a h1 h2
  obtain ⟨y1, y2, HY, hy⟩ := read_int b h3 h4
  refine test3_any pv cwd _ _ _ B cap _ _ w c0 c1 c2 (isBinary_op _ (by simp)) (binary_any pv cwd _ _ _ x1 x2 y1 y2 _ _ (decide (a ≤ b)) (by rw [Lib.toList_data]; decide) (by rw [Lib.toList_data]; decide) (by rw [Lib.toList_data]; decide) HX HY (fun k1 k2 w => ?_))
  obtain ⟨H, L, rfl, rfl, e1, f1, g1⟩ := hx (of_decide_eq_true k1)
  obtain ⟨G, M, rfl, rfl, e2, f2, g2⟩ := hy (of_decide_eq_true k2)
  obtain ⟨q1, q2⟩ := lex_lt e1 e2 f1 f2
  have hh := holds_le _ _ _ _ _ _ _ _ (lt_sgw (t := H) (r := G) (by omega) (by omega) (decide (a < 0)) (decide (b < 0))) (eq_sgw (t := H) (r := G) (by omega) (by omega) (decide (a < 0)) (decide (b < 0))) (lt_sgw (t := L) (r := M) (by omega) (by omega) (decide (a < 0)) (decide (b < 0))) (eq_sgw (t := L) (r := M) (by omega) (by omega) (decide (a < 0)) (decide (b < 0)))
    (fun hlt => by rw [decide_eq_true_iff] at hlt; rw [decide_eq_false_iff_not]; omega) w
  rw [q1, q2] at hh
  have hw : (decide (a < b) || (a == b)) = decide (a ≤ b) := by
    first | rfl | (rw [Bool.eq_iff_iff]; simp; try omega)
  rw [hw] at hh
  exact hh


theorem test_gt (pv : Option Addr) (cwd : ByteArray) (a b : Int) (B cap : Nat) (w : World) (h1 : -9223372036854775808 ≤ a) (h2 : a < 9223372036854775808) (h3 : -9223372036854775808 ≤ b) (h4 : b < 9223372036854775808)
    (c0 : w.cell? ⟨B, 0, none⟩ = some (.string ⟨(Lib.itoa a).toArray⟩)) (c1 : w.cell? ⟨B, 1, none⟩ = some (.string ⟨#[45, 103, 116]⟩)) (c2 : w.cell? ⟨B, 2, none⟩ = some (.string ⟨(Lib.itoa b).toArray⟩)) :
    Calls Tryd.prog 6 #[.pointer pv, .string cwd, .slice (some ⟨B, 0, none⟩) 3 cap] w fun e w' => e = .returned (.tuple #[.bool (okB a b && decide (b < a)), .int .i64 (if okB a b then 0 else 2)]) ∧ Below w.heap.size w w' := by
  obtain ⟨x1, x2, HX, hx⟩ := read_int a h1 h2
  obtain ⟨y1, y2, HY, hy⟩ := read_int b h3 h4
  refine test3_any pv cwd _ _ _ B cap _ _ w c0 c1 c2 (isBinary_op _ (by simp)) (binary_any pv cwd _ _ _ x1 x2 y1 y2 _ _ (decide (b < a)) (by rw [Lib.toList_data]; decide) (by rw [Lib.toList_data]; decide) (by rw [Lib.toList_data]; decide) HX HY (fun k1 k2 w => ?_))
  obtain ⟨H, L, rfl, rfl, e1, f1, g1⟩ := hx (of_decide_eq_true k1)
  obtain ⟨G, M, rfl, rfl, e2, f2, g2⟩ := hy (of_decide_eq_true k2)
  obtain ⟨q1, q2⟩ := lex_lt e1 e2 f1 f2
  have hh := holds_gt _ _ _ _ _ _ _ _ (lt_sgw (t := H) (r := G) (by omega) (by omega) (decide (a < 0)) (decide (b < 0))) (eq_sgw (t := H) (r := G) (by omega) (by omega) (decide (a < 0)) (decide (b < 0))) (lt_sgw (t := L) (r := M) (by omega) (by omega) (decide (a < 0)) (decide (b < 0))) (eq_sgw (t := L) (r := M) (by omega) (by omega) (decide (a < 0)) (decide (b < 0)))
    (fun hlt => by rw [decide_eq_true_iff] at hlt; rw [decide_eq_false_iff_not]; omega) w
  rw [q1, q2] at hh
  have hw : (!decide (a < b) && !(a == b)) = decide (b < a) := by
    first | rfl | (rw [Bool.eq_iff_iff]; simp; try omega)
  rw [hw] at hh
  exact hh


theorem test_ge (pv : Option Addr) (cwd : ByteArray) (a b : Int) (B cap : Nat) (w : World) (h1 : -9223372036854775808 ≤ a) (h2 : a < 9223372036854775808) (h3 : -9223372036854775808 ≤ b) (h4 : b < 9223372036854775808)
    (c0 : w.cell? ⟨B, 0, none⟩ = some (.string ⟨(Lib.itoa a).toArray⟩)) (c1 : w.cell? ⟨B, 1, none⟩ = some (.string ⟨#[45, 103, 101]⟩)) (c2 : w.cell? ⟨B, 2, none⟩ = some (.string ⟨(Lib.itoa b).toArray⟩)) :
    Calls Tryd.prog 6 #[.pointer pv, .string cwd, .slice (some ⟨B, 0, none⟩) 3 cap] w fun e w' => e = .returned (.tuple #[.bool (okB a b && decide (b ≤ a)), .int .i64 (if okB a b then 0 else 2)]) ∧ Below w.heap.size w w' := by
  obtain ⟨x1, x2, HX, hx⟩ := read_int a h1 h2
  obtain ⟨y1, y2, HY, hy⟩ := read_int b h3 h4
  refine test3_any pv cwd _ _ _ B cap _ _ w c0 c1 c2 (isBinary_op _ (by simp)) (binary_any pv cwd _ _ _ x1 x2 y1 y2 _ _ (decide (b ≤ a)) (by rw [Lib.toList_data]; decide) (by rw [Lib.toList_data]; decide) (by rw [Lib.toList_data]; decide) HX HY (fun k1 k2 w => ?_))
  obtain ⟨H, L, rfl, rfl, e1, f1, g1⟩ := hx (of_decide_eq_true k1)
  obtain ⟨G, M, rfl, rfl, e2, f2, g2⟩ := hy (of_decide_eq_true k2)
  obtain ⟨q1, q2⟩ := lex_lt e1 e2 f1 f2
  have hh := holds_ge _ _ _ _ _ _ _ _ (lt_sgw (t := H) (r := G) (by omega) (by omega) (decide (a < 0)) (decide (b < 0))) (eq_sgw (t := H) (r := G) (by omega) (by omega) (decide (a < 0)) (decide (b < 0))) (lt_sgw (t := L) (r := M) (by omega) (by omega) (decide (a < 0)) (decide (b < 0))) (eq_sgw (t := L) (r := M) (by omega) (by omega) (decide (a < 0)) (decide (b < 0)))
    (fun hlt => by rw [decide_eq_true_iff] at hlt; rw [decide_eq_false_iff_not]; omega) w
  rw [q1] at hh
  have hw : (!decide (a < b)) = decide (b ≤ a) := by
    first | rfl | (rw [Bool.eq_iff_iff]; simp; try omega)
  rw [hw] at hh
  exact hh

end Go.Proofs.YtgmoggpnfabjfaaDoor