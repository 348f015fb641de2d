import Derived.Test.YtgmoggpnfabjfaaDoorC
import Derived.Test.YtgmoggpnfabjfaaDoorD
namespace Go.Proofs.YtgmoggpnfabjfaaDoor
open Go.RowKit
set_option linter.unusedVariables false

/-- What is read of a number. -/
theorem read_int (n : Int) (h1 : -9223372036854775808 ≤ n) (h2 : n < 9223372036854775808) :
    ∃ x1 x2 : Nat, (∀ w, Calls Tryd.prog 16 #[.string ⟨(Lib.itoa n).toArray⟩] w fun e w' => e = .returned (.tuple #[.agg #[.float .f64 x1, .float .f64 x2], .bool (decide (n.natAbs < 1000000000000000000))]) ∧ Below w.heap.size w w') ∧
      (n.natAbs < 1000000000000000000 → ∃ H L, x1 = sgw (decide (n < 0)) (fl H) ∧ x2 = sgw (decide (n < 0)) (fl L) ∧ n = sgi (decide (n < 0)) (H * 1000000000 + L) ∧ L < 1000000000 ∧ H < 1000000000) := by
  have hi : Lib.itoa n = mns (decide (n < 0)) n.natAbs := by
    unfold mns
    by_cases hn : n < 0
    · rw [decide_eq_true hn, if_pos rfl]
      have := itoa_neg (n := n.natAbs) (by omega)
      rw [show -(n.natAbs : Int) = n by omega] at this
      exact this
    · rw [decide_eq_false hn, if_neg (by simp)]
      have := itoa_nat n.natAbs
      rw [show (n.natAbs : Int) = n by omega] at this
      exact this
  rw [hi]
  by_cases hb : n.natAbs < 1000000000000000000
  · obtain ⟨H, L, a1, a2, a3, a4, a5, a6, a7⟩ := split9 n.natAbs ((Lib.decDigits n.natAbs).length - 9) hb rfl
    refine ⟨sgw (decide (n < 0)) (fl H), sgw (decide (n < 0)) (fl L), fun w => ?_, fun _ => ⟨H, L, rfl, rfl, ?_, a4, a5⟩⟩
    · rw [decide_eq_true hb]
      exact read_dig _ _ H L _ rfl hb a1 a2 a6 a7 a5 a4 w
    · rw [← a3]
      unfold sgi
      by_cases hn : n < 0
      · rw [decide_eq_true hn, if_pos rfl]; omega
      · rw [decide_eq_false hn, if_neg (by simp)]; omega
  · refine ⟨0, 0, fun w => ?_, fun h => absurd h hb⟩
    rw [decide_eq_false hb]
    exact read_long _ _ (by omega) (by omega) w

set_option maxRecDepth 100000 in
set_option maxHeartbeats 2000000 in
theorem binary_any (pv : Option Addr) (cwd a b op : ByteArray) (x1 x2 y1 y2 : Nat) (ka kb R : Bool) (o1 : (op.toList == [61]) = false) (o2 : (op.toList == [33, 61]) = false) (o3 : (op.toList == [45, 110, 116]) = false)
    (HA : ∀ w, Calls Tryd.prog 16 #[.string a] w fun e w' => e = .returned (.tuple #[.agg #[.float .f64 x1, .float .f64 x2], .bool ka]) ∧ Below w.heap.size w w')
    (HB : ∀ w, Calls Tryd.prog 16 #[.string b] w fun e w' => e = .returned (.tuple #[.agg #[.float .f64 y1, .float .f64 y2], .bool kb]) ∧ Below w.heap.size w w')
    (HH : ka = true → kb = true → ∀ w, Calls Tryd.prog 17 #[.agg #[.float .f64 x1, .float .f64 x2], .string op, .agg #[.float .f64 y1, .float .f64 y2]] w fun e w' => e = .returned (.bool R) ∧ Below w.heap.size w w') (w : World) :
    Calls Tryd.prog 11 #[.agg #[.pointer pv, .string cwd], .string a, .string op, .string b] w fun e w' => e = .returned (.tuple #[.bool (ka && kb && R), .int .i64 (if ka && kb then 0 else 2)]) ∧ Below w.heap.size w w' := by
  have HA' := Lib.hid HA
  have HB' := Lib.hid HB
  have HH' := Lib.hid HH
  have hsf := run_store_float
  clear HA HB HH
  cases ka <;> cases kb
  all_goals
    go_enter Tryd.func11, Tryd.ntmps11
    go_wp2_with fail
    refine (HA'.out _).mono ?_
    rintro e w1 ⟨rfl, hB1⟩
    have HB1 := Lib.hid (((Below.refl w.heap.size w).alloc (Nat.le_refl _) _).trans (hB1.mono (by simp)))
    clear hB1
    simp only []
    go_wp2_with fail
    refine (HB'.out _).mono ?_
    rintro e w2 ⟨rfl, hB2⟩
    have hz1 := HB1.out.size
    have HB2 := Lib.hid ((HB1.out.alloc hz1 _).trans (hB2.mono (by simp; omega)))
    have hxz : w1.heap.size < w2.heap.size := by have := hB2.size; simp at this; omega
    have hxa : w2.cell? ⟨w1.heap.size, 0, none⟩ = some (.float .f64 x1) := (hB2.cell (p := ⟨w1.heap.size, 0, none⟩) (by simp)).trans (by simp)
    have hxb : w2.cell? ⟨w1.heap.size, 1, none⟩ = some (.float .f64 x2) := (hB2.cell (p := ⟨w1.heap.size, 1, none⟩) (by simp)).trans (by simp)
    have hz2 := HB2.out.size
    have HE2 := Lib.hid hz2
    clear hB2 hz1 hz2
    simp only []
    first
    | (go_wp2_with fail
       go_ret2
       exact ⟨rfl, HB2.out.alloc HE2.out _⟩)
    | (have HC : Hid (∀ w, Calls Tryd.prog 17 #[.agg #[.float .f64 x1, .float .f64 x2], .string op, .agg #[.float .f64 y1, .float .f64 y2]] w fun e w' => e = .returned (.bool R) ∧ Below w.heap.size w w') := by first | exact HH'.out rfl rfl | exact HH'.out trivial trivial
       go_wp2_with fail
       refine (HC.out _).mono ?_
       rintro e w3 ⟨rfl, hB3⟩
       have HB3 := Lib.hid ((HB2.out.alloc HE2.out _).trans (hB3.mono (by have := HE2.out; simp; omega)))
       clear hB3
       simp only []
       go_wp2_with fail
       go_ret2
       exact ⟨rfl, HB3.out⟩)

set_option maxRecDepth 100000 in
set_option maxHeartbeats 1000000 in
theorem isBinary_op (op : ByteArray) (h : op ∈ ([⟨#[45, 101, 113]⟩, ⟨#[45, 110, 101]⟩, ⟨#[45, 108, 116]⟩, ⟨#[45, 108, 101]⟩, ⟨#[45, 103, 116]⟩, ⟨#[45, 103, 101]⟩] : List ByteArray)) (w : World) :
    Calls Tryd.prog 10 #[.string op] w fun e w' => e = .returned (.bool true) ∧ w' = w := by
  simp only [List.mem_cons, List.not_mem_nil, or_false] at h
  rcases h with rfl | rfl | rfl | rfl | rfl | rfl
  all_goals
    go_enter Tryd.func10, Tryd.ntmps10
    go_wp2_with fail
    go_ret
    exact ⟨rfl, rfl⟩
set_option maxRecDepth 100000 in
set_option maxHeartbeats 2000000 in
theorem test3_any (pv : Option Addr) (cwd a b op : ByteArray) (B cap : Nat) (r : Bool) (q : Int) (w : World)
    (c0 : w.cell? ⟨B, 0, none⟩ = some (.string a)) (c1 : w.cell? ⟨B, 1, none⟩ = some (.string op)) (c2 : w.cell? ⟨B, 2, none⟩ = some (.string b))
    (HI : ∀ w, Calls Tryd.prog 10 #[.string op] w fun e w' => e = .returned (.bool true) ∧ w' = w)
    (HH : ∀ w, Calls Tryd.prog 11 #[.agg #[.pointer pv, .string cwd], .string a, .string op, .string b] w fun e w' => e = .returned (.tuple #[.bool r, .int .i64 q]) ∧ Below w.heap.size w w') :
    Calls Tryd.prog 6 #[.pointer pv, .string cwd, .slice (some ⟨B, 0, none⟩) 3 cap] w fun e w' => e = .returned (.tuple #[.bool r, .int .i64 q]) ∧ Below w.heap.size w w' := by
  have hBl : B < w.heap.size := World.block_lt_of_cell? w ⟨B, 0, none⟩ c0
  have hne : B ≠ w.heap.size := by omega
  have HI' := Lib.hid HI
  have HH' := Lib.hid HH
  clear HI HH
  go_enter Tryd.func6, Tryd.ntmps6
  go_wp2_with (go_at_call 10; refine (HI'.out _).mono ?_; rintro e w' ⟨rfl, rfl⟩)
  have hd0 : (w.alloc (.cells #[.pointer pv, .string cwd] 40)).drew.cell? ⟨B, 0, none⟩ = some (.string a) := by show (w.alloc _).cell? _ = _; rw [World.cell?_alloc_lt (h := hBl)]; exact c0
  have hd1 : (w.alloc (.cells #[.pointer pv, .string cwd] 40)).drew.cell? ⟨B, 1, none⟩ = some (.string op) := by show (w.alloc _).cell? _ = _; rw [World.cell?_alloc_lt (h := hBl)]; exact c1
  have hd2 : (w.alloc (.cells #[.pointer pv, .string cwd] 40)).drew.cell? ⟨B, 2, none⟩ = some (.string b) := by show (w.alloc _).cell? _ = _; rw [World.cell?_alloc_lt (h := hBl)]; exact c2
  have hp0 : (w.alloc (.cells #[.pointer pv, .string cwd] 40)).drew.cell? ⟨w.heap.size, 0, none⟩ = some (.pointer pv) := by simp
  have hp1 : (w.alloc (.cells #[.pointer pv, .string cwd] 40)).drew.cell? ⟨w.heap.size, 1, none⟩ = some (.string cwd) := by simp
  have HB1 : Hid (Below w.heap.size w (w.alloc (.cells #[.pointer pv, .string cwd] 40)).drew) := Below.drew ((Below.refl _ _).alloc (Nat.le_refl _) _)
  refine wp_region_quiet_mid 10 1 (isOne (w.alloc (.cells #[.pointer pv, .string cwd] 40)).drew) (by kernel_rfl) (by kernel_rfl) ⟨⟨_, rfl⟩, rfl⟩ ?_
  generalize (w.alloc (.cells #[.pointer pv, .string cwd] 40)).drew = wz at hd0 hd1 hd2 hp0 hp1 HB1 ⊢
  have e0 : ∀ b : One wz, b.v.cell? ⟨B, 0, none⟩ = some (.string a) := fun b => by rw [b.h]; exact hd0
  have e1 : ∀ b : One wz, b.v.cell? ⟨B, 1, none⟩ = some (.string op) := fun b => by rw [b.h]; exact hd1
  have e2 : ∀ b' : One wz, b'.v.cell? ⟨B, 2, none⟩ = some (.string b) := fun b => by rw [b.h]; exact hd2
  have e3 : ∀ b : One wz, b.v.cell? ⟨w.heap.size, 0, none⟩ = some (.pointer pv) := fun b => by rw [b.h]; exact hp0
  have e4 : ∀ b : One wz, b.v.cell? ⟨w.heap.size, 1, none⟩ = some (.string cwd) := fun b => by rw [b.h]; exact hp1
  unfold isOne
  simp only [List.take_succ_cons, List.take_zero, List.drop_succ_cons, List.drop_zero]
  repeat (go_big_quiet_step (fail))
  refine wpQuiet_nil ?_
  rintro _ ⟨b3, rfl⟩
  obtain ⟨wy, hwy⟩ := b3
  subst hwy
  simp only []
  go_wp2_with fail
  refine (HH'.out _).mono ?_
  rintro e w5 ⟨rfl, hB5⟩
  have HB5 := Lib.hid (HB1.out.trans (hB5.mono HB1.out.size))
  clear hB5
  simp only []
  go_wp2_with fail
  show wpQuiet _ _ _ _ _ _
  repeat (go_big_quiet_step (fail))
  refine wpQuiet_nil ?_
  go_wp2_with fail
  go_ret2
  exact ⟨rfl, HB5.out⟩
end Go.Proofs.YtgmoggpnfabjfaaDoor
