import Derived.Test.YtcmjpkfinbakkaaGreatDoorQCB
import Derived.Test.YtcmjpkfinbakkaaGreatDoorQCQV
namespace Go.Proofs.YtcmjpkfinbakkaaGreatDoor.Vf.Ck
set_option maxRecDepth 100000
open Go.RowKit
set_option linter.unusedVariables false

/-- What is read of a number. -/
theorem read_int (n : Int) (h1 : -9223372036854775808 ≤ n) (h2 : n < 9223372036854775808) :
    ∃ x1 x2 : Nat, (∀ w, Calls Tryz.prog 205 #[.string ⟨(Lib.itoa n).toArray⟩] w fun e w' => e = .returned (.tuple #[.agg #[.float .f64 x1, .float .f64 x2], .bool (decide (n.natAbs < 1000000000000000000))]) ∧ Below w.heap.size w w') ∧
      (n.natAbs < 1000000000000000000 → ∃ H L, x1 = sgw (decide (n < 0)) (fl H) ∧ x2 = sgw (decide (n < 0)) (fl L) ∧ n = sgi (decide (n < 0)) (H * 1000000000 + L) ∧ L < 1000000000 ∧ H < 1000000000) := by
  have hi : Lib.itoa n = mns (decide (n < 0)) n.natAbs := by
    unfold mns
    by_cases hn : n < 0
    · rw [decide_eq_true hn, if_pos rfl]
      have := itoa_neg (n := n.natAbs) (by omega)
      rw [show -(n.natAbs : Int) = n by omega] at this
      exact this
    · rw [decide_eq_false hn, if_neg (by simp)]
      have := itoa_nat n.natAbs
      rw [show (n.natAbs : Int) = n by omega] at this
      exact this
  rw [hi]
  by_cases hb : n.natAbs < 1000000000000000000
  · obtain ⟨H, L, a1, a2, a3, a4, a5, a6, a7⟩ := split9 n.natAbs ((Lib.decDigits n.natAbs).length - 9) hb rfl
    refine ⟨sgw (decide (n < 0)) (fl H), sgw (decide (n < 0)) (fl L), fun w => ?_, fun _ => ⟨H, L, rfl, rfl, ?_, a4, a5⟩⟩
    · rw [decide_eq_true hb]
      exact read_dig _ _ H L _ rfl hb a1 a2 a6 a7 a5 a4 w
    · rw [← a3]
      unfold sgi
      by_cases hn : n < 0
      · rw [decide_eq_true hn, if_pos rfl]; omega
      · rw [decide_eq_false hn, if_neg (by simp)]; omega
  · refine ⟨0, 0, fun w => ?_, fun h => absurd h hb⟩
    rw [decide_eq_false hb]
    exact read_long _ _ (by omega) (by omega) w

set_option maxRecDepth 100000 in
set_option maxHeartbeats 2000000 in
theorem binary_any (pv : Option Addr) (cwd a b op : ByteArray) (x1 x2 y1 y2 : Nat) (ka kb R : Bool) (o1 : (op.toList == [61]) = false) (o2 : (op.toList == [33, 61]) = false) (o3 : (op.toList == [45, 110, 116]) = false)
    (HA : ∀ w, Calls Tryz.prog 205 #[.string a] w fun e w' => e = .returned (.tuple #[.agg #[.float .f64 x1, .float .f64 x2], .bool ka]) ∧ Below w.heap.size w w')
    (HB : ∀ w, Calls Tryz.prog 205 #[.string b] w fun e w' => e = .returned (.tuple #[.agg #[.float .f64 y1, .float .f64 y2], .bool kb]) ∧ Below w.heap.size w w')
    (HH : ka = true → kb = true → ∀ w, Calls Tryz.prog 206 #[.agg #[.float .f64 x1, .float .f64 x2], .string op, .agg #[.float .f64 y1, .float .f64 y2]] w fun e w' => e = .returned (.bool R) ∧ Below w.heap.size w w') (w : World) :
    Calls Tryz.prog 155 #[.agg #[.pointer pv, .string cwd], .string a, .string op, .string b] w fun e w' => e = .returned (.tuple #[.bool (ka && kb && R), .int .i64 (if ka && kb then 0 else 2)]) ∧ Below w.heap.size w w' := by
  have HA' := Lib.hid HA
  have HB' := Lib.hid HB
  have HH' := Lib.hid HH
  have hsf := run_store_float
  clear HA HB HH
  cases ka <;> cases kb
  all_goals
    go_enter Tryz.func155, Tryz.ntmps155
    go_wp2_with fail
    refine (HA'.out _).mono ?_
    rintro e w1 ⟨rfl, hB1⟩
    have HB1 := Lib.hid (((Below.refl w.heap.size w).alloc (Nat.le_refl _) _).trans (hB1.mono (by simp)))
    clear hB1
    simp only []
    go_wp2_with fail
    refine (HB'.out _).mono ?_
    rintro e w2 ⟨rfl, hB2⟩
    have hz1 := HB1.out.size
    have HB2 := Lib.hid ((HB1.out.alloc hz1 _).trans (hB2.mono (by simp; omega)))
    have hxz : w1.heap.size < w2.heap.size := by have := hB2.size; simp at this; omega
    have hxa : w2.cell? ⟨w1.heap.size, 0, none⟩ = some (.float .f64 x1) := (hB2.cell (p := ⟨w1.heap.size, 0, none⟩) (by simp)).trans (by simp)
    have hxb : w2.cell? ⟨w1.heap.size, 1, none⟩ = some (.float .f64 x2) := (hB2.cell (p := ⟨w1.heap.size, 1, none⟩) (by simp)).trans (by simp)
    have hz2 := HB2.out.size
    have HE2 := Lib.hid hz2
    clear hB2 hz1 hz2
    simp only []
    first
    | (go_wp2_with fail
       go_ret2
       exact ⟨rfl, HB2.out.alloc HE2.out _⟩)
    | (have HC : Hid (∀ w, Calls Tryz.prog 206 #[.agg #[.float .f64 x1, .float .f64 x2], .string op, .agg #[.float .f64 y1, .float .f64 y2]] w fun e w' => e = .returned (.bool R) ∧ Below w.heap.size w w') := by first | exact HH'.out rfl rfl | exact HH'.out trivial trivial
       go_wp2_with fail
       refine (HC.out _).mono ?_
       rintro e w3 ⟨rfl, hB3⟩
       have HB3 := Lib.hid ((HB2.out.alloc HE2.out _).trans (hB3.mono (by have := HE2.out; simp; omega)))
       clear hB3
       simp only []
       go_wp2_with fail
       go_ret2
       exact ⟨rfl, HB3.out⟩)

set_option maxRecDepth 100000 in
set_option maxHeartbeats 1000000 in
theorem isBinary_op (op : ByteArray) (h : op ∈ ([⟨#[45, 101, 113]⟩, ⟨#[45, 110, 101]⟩, ⟨#[45, 108, 116]⟩, ⟨#[45, 108, 101]⟩, ⟨#[45, 103, 116]⟩, ⟨#[45, 103, 101]⟩] : List ByteArray)) (w : World) :
    Calls Tryz.prog 154 #[.string op] w fun e w' => e = .returned (.bool true) ∧ w' = w := by
  simp only [List.mem_cons, List.not_mem_nil, or_false] at h
  rcases h with rfl | rfl | rfl | rfl | rfl | rfl
  all_goals
    go_enter Tryz.func154, Tryz.ntmps154
    go_wp2_with fail
    go_ret
    exact ⟨rfl, rfl⟩
set_option maxRecDepth 100000 in
set_option maxHeartbeats 2000000 in
theorem test3_any (pv : Option Addr) (cwd a b op : ByteArray) (B cap : Nat) (r : Bool) (q : Int) (w : World)
    (c0 : w.cell? ⟨B, 0, none⟩ = some (.string a)) (c1 : w.cell? ⟨B, 1, none⟩ = some (.string op)) (c2 : w.cell? ⟨B, 2, none⟩ = some (.string b))
    (HI : ∀ w, Calls Tryz.prog 154 #[.string op] w fun e w' => e = .returned (.bool true) ∧ w' = w)
    (HH : ∀ w, Calls Tryz.prog 155 #[.agg #[.pointer pv, .string cwd], .string a, .string op, .string b] w fun e w' => e = .returned (.tuple #[.bool r, .int .i64 q]) ∧ Below w.heap.size w w') :
    Calls Tryz.prog 112 #[.pointer pv, .string cwd, .slice (some ⟨B, 0, none⟩) 3 cap] w fun e w' => e = .returned (.tuple #[.bool r, .int .i64 q]) ∧ Below w.heap.size w w' := by
  have hBl : B < w.heap.size := World.block_lt_of_cell? w ⟨B, 0, none⟩ c0
  have hne : B ≠ w.heap.size := by omega
  have HI' := Lib.hid HI
  have HH' := Lib.hid HH
  clear HI HH
  go_enter Tryz.func112, Tryz.ntmps112
  go_wp2_with (go_at_call 154; refine (HI'.out _).mono ?_; rintro e w' ⟨rfl, rfl⟩)
  have hd0 : (w.alloc (.cells #[.pointer pv, .string cwd] 186)).drew.cell? ⟨B, 0, none⟩ = some (.string a) := by show (w.alloc _).cell? _ = _; rw [World.cell?_alloc_lt (h := hBl)]; exact c0
  have hd1 : (w.alloc (.cells #[.pointer pv, .string cwd] 186)).drew.cell? ⟨B, 1, none⟩ = some (.string op) := by show (w.alloc _).cell? _ = _; rw [World.cell?_alloc_lt (h := hBl)]; exact c1
  have hd2 : (w.alloc (.cells #[.pointer pv, .string cwd] 186)).drew.cell? ⟨B, 2, none⟩ = some (.string b) := by show (w.alloc _).cell? _ = _; rw [World.cell?_alloc_lt (h := hBl)]; exact c2
  have hp0 : (w.alloc (.cells #[.pointer pv, .string cwd] 186)).drew.cell? ⟨w.heap.size, 0, none⟩ = some (.pointer pv) := by simp
  have hp1 : (w.alloc (.cells #[.pointer pv, .string cwd] 186)).drew.cell? ⟨w.heap.size, 1, none⟩ = some (.string cwd) := by simp
  have HB1 : Hid (Below w.heap.size w (w.alloc (.cells #[.pointer pv, .string cwd] 186)).drew) := Below.drew ((Below.refl _ _).alloc (Nat.le_refl _) _)
  refine wp_region_quiet_mid 10 1 (isOne (w.alloc (.cells #[.pointer pv, .string cwd] 186)).drew) (by kernel_rfl) (by kernel_rfl) ⟨⟨_, rfl⟩, rfl⟩ ?_
  generalize (w.alloc (.cells #[.pointer pv, .string cwd] 186)).drew = wz at hd0 hd1 hd2 hp0 hp1 HB1 ⊢
  have e0 : ∀ b : One wz, b.v.cell? ⟨B, 0, none⟩ = some (.string a) := fun b => by rw [b.h]; exact hd0
  have e1 : ∀ b : One wz, b.v.cell? ⟨B, 1, none⟩ = some (.string op) := fun b => by rw [b.h]; exact hd1
  have e2 : ∀ b' : One wz, b'.v.cell? ⟨B, 2, none⟩ = some (.string b) := fun b => by rw [b.h]; exact hd2
  have e3 : ∀ b : One wz, b.v.cell? ⟨w.heap.size, 0, none⟩ = some (.pointer pv) := fun b => by rw [b.h]; exact hp0
  have e4 : ∀ b : One wz, b.v.cell? ⟨w.heap.size, 1, none⟩ = some (.string cwd) := fun b => by rw [b.h]; exact hp1
  unfold isOne
  simp only [List.take_succ_cons, List.take_zero, List.drop_succ_cons, List.drop_zero]
  repeat (go_big_quiet_step (fail))
  refine wpQuiet_nil ?_
  rintro _ ⟨b3, rfl⟩
  obtain ⟨wy, hwy⟩ := b3
  subst hwy
  simp only []
  go_wp2_with fail
  refine (HH'.out _).mono ?_
  rintro e w5 ⟨rfl, hB5⟩
  have HB5 := Lib.hid (HB1.out.trans (hB5.mono HB1.out.size))
  clear hB5
  simp only []
  go_wp2_with fail
  show wpQuiet _ _ _ _ _ _
  repeat (go_big_quiet_step (fail))
  refine wpQuiet_nil ?_
  go_wp2_with fail
  go_ret2
  exact ⟨rfl, HB5.out⟩
end Go.Proofs.YtcmjpkfinbakkaaGreatDoor.Vf.Ck

namespace Go.Proofs.YtcmjpkfinbakkaaGreatDoor.Vf.Ck
set_option maxRecDepth 100000
open Go.RowKit
set_option linter.unusedVariables false

set_option maxRecDepth 100000 in
set_option maxHeartbeats 2000000 in
theorem read_gen (S : ByteArray) (neg : Bool) (l : List UInt8) (H L at' : Nat) (e1 : hp S ⟨#[45]⟩ = neg) (e2 : (if neg = true then S.extract (⟨#[45]⟩ : ByteArray).size S.size else S) = ⟨l.toArray⟩) (hdd : ∀ c ∈ l, isDig c = true) (hl18 : l.length ≤ 18) (hnb : numB ⟨l.toArray⟩ = true)
    (ha : at' = l.length - 9) (hH : dval (l.take at') = H) (hL : dval (l.drop at') = L)
    (l1 : (l.take at').length ≤ 9) (l2 : (l.drop at').length ≤ 9) (hH2 : H < 1000000000) (hL2 : L < 1000000000) (w : World) :
    Calls Tryz.prog 205 #[.string S] w fun e w' => e = .returned (.tuple #[.agg #[.float .f64 (sgw neg (fl H)), .float .f64 (sgw neg (fl L))], .bool true]) ∧ Below w.heap.size w w' := by
  have hc := CutPrefix_any S ⟨#[45]⟩
  rw [e1, e2] at hc
  have hn := Number_any ⟨l.toArray⟩
  rw [hnb] at hn
  have hle : at' ≤ l.length := by omega
  have t1 := ext_take l at' hle
  have t2 := ext_drop l at'
  obtain ⟨A, hA⟩ : ∃ S : ByteArray, ⟨(l.take at').toArray⟩ = S := ⟨_, rfl⟩
  obtain ⟨B, hB⟩ : ∃ S : ByteArray, ⟨(l.drop at').toArray⟩ = S := ⟨_, rfl⟩
  have va := value_any A
  have vb := value_any B
  have va2 := fun w => va w (by rw [← hA]; exact l1) (by rw [← hA]; exact fun c hc => hdd c (List.mem_of_mem_take hc))
  have vb2 := fun w => vb w (by rw [← hB]; exact l2) (by rw [← hB]; exact fun c hc => hdd c (List.mem_of_mem_drop hc))
  have qa : dval A.data.toList = H := by rw [← hA]; exact hH
  have qb : dval B.data.toList = L := by rw [← hB]; exact hL
  rw [qa] at va2
  rw [qb] at vb2
  rw [hA] at t1
  rw [hB] at t2
  have hln : ∀ D : ByteArray, ⟨l.toArray⟩ = D → D.size = l.length := fun D e => by rw [← e]; rfl
  obtain ⟨D, hD⟩ : ∃ D : ByteArray, ⟨l.toArray⟩ = D := ⟨_, rfl⟩
  have hls := hln D hD
  rw [hD] at hc
  rw [hD] at hn t1 t2
  have k1 : D.size ≤ 18 := by omega
  have k2 : IntKind.i64.wrap ((D.size : Int) - 9) = (D.size : Int) - 9 := IntWalk.i64_in _ (by omega)
  have k3 : max ((D.size : Int) - 9) 0 = (at' : Int) := by omega
  have k4 : (at' : Int) ≤ (D.size : Int) := by omega
  have n1 := run_neg (fl H) (by have := fl_lt (t := H) (by omega); omega)
  have n2 := run_neg (fl L) (by have := fl_lt (t := L) (by omega); omega)
  obtain ⟨xh, hxh⟩ : ∃ x, fl H = x := ⟨_, rfl⟩
  obtain ⟨xl, hxl⟩ : ∃ x, fl L = x := ⟨_, rfl⟩
  rw [hxh] at va2 n1 ⊢
  rw [hxl] at vb2 n2 ⊢
  have HC := Lib.hid hc
  have HN := Lib.hid (fun w => hn w (by omega))
  have HVA := Lib.hid va2
  have HVB := Lib.hid vb2
  clear hc hn hD e1 e2 hdd hnb hH hL l1 l2 hH2 hL2 hA hB va vb va2 vb2 qa qb hln hxh hxl hl18 hle
  have hsf := run_store_float
  have hat : at' = D.size - 9 := by omega
  clear ha hls
  by_cases hz : D.size ≤ 8
  · obtain rfl : at' = 0 := by omega
    have g1 : A = ByteArray.empty := by rw [← t1]; exact ByteArray.ext (Array.ext' (by rw [← Lib.toList_data, Lib.extract_toList]; simp))
    have g2 : B = D := by
      rw [← t2]
      refine ByteArray.ext (Array.ext' ?_)
      rw [← Lib.toList_data, Lib.extract_toList, List.drop_zero, Nat.sub_zero, List.take_of_length_le (by simp)]
    rw [g1] at HVA
    rw [g2] at HVB
    have m1 : (D.size : Int) - 9 ≤ 0 := by omega
    clear t1 t2 hat k2 k3 k4 g1 g2
    cases neg
    all_goals
      go_enter Tryz.func205, Tryz.ntmps205
      go_wp2_with (first
        | (go_at_call 156; refine (HC.out _).mono ?_; rintro e w' ⟨rfl, rfl⟩)
        | (go_at_call 160; refine (HN.out _).mono ?_; rintro e w' ⟨rfl, rfl⟩))
      all_goals first
        | (exfalso; omega)
        | skip
      all_goals
        refine wp_region_made 9 1 39 _ (by kernel_rfl) (by kernel_rfl) (by kernel_rfl) (Nat.le_refl 39) rfl ?_
        have HB1 : Hid (Below w.heap.size w (w.alloc (.cells #[.float .f64 0, .float .f64 0] 230)).drew) := Below.drew ((Below.refl _ _).alloc (Nat.le_refl _) _)
        have hc1 : (w.alloc (.cells #[.float .f64 0, .float .f64 0] 230)).drew.cell? ⟨w.heap.size, 0, none⟩ = some (.float .f64 0) := by go_simp
        have hc2 : (w.alloc (.cells #[.float .f64 0, .float .f64 0] 230)).drew.cell? ⟨w.heap.size, 1, none⟩ = some (.float .f64 0) := by go_simp
        have hf1 : (w.alloc (.cells #[.float .f64 0, .float .f64 0] 230)).drew.frozen? ⟨w.heap.size, 0, none⟩ = false := by go_simp
        have hf2 : (w.alloc (.cells #[.float .f64 0, .float .f64 0] 230)).drew.frozen? ⟨w.heap.size, 1, none⟩ = false := by go_simp
        have hsz : w.heap.size + 1 ≤ (w.alloc (.cells #[.float .f64 0, .float .f64 0] 230)).drew.heap.size := by simp
        generalize (w.alloc (.cells #[.float .f64 0, .float .f64 0] 230)).drew = wz at HB1 hc1 hc2 hf1 hf2 hsz ⊢
        have hne : w.heap.size ≠ wz.heap.size := by omega
        have hne2 : wz.heap.size ≠ w.heap.size := by omega
        have hlt : w.heap.size < wz.heap.size := by omega
        have hd1 : (wz.alloc (.cells #[.float .f64 0, .float .f64 0] 230)).cell? ⟨w.heap.size, 0, none⟩ = some (.float .f64 0) := by rw [World.cell?_alloc_lt (h := hlt)]; exact hc1
        have hd2 : (wz.alloc (.cells #[.float .f64 0, .float .f64 0] 230)).cell? ⟨w.heap.size, 1, none⟩ = some (.float .f64 0) := by rw [World.cell?_alloc_lt (h := hlt)]; exact hc2
        clear hsz
        have HC1 : Hid (∀ b : One wz, Calls Tryz.prog 243 #[.string ByteArray.empty] b.v fun e w' => e = .returned (.float .f64 xh) ∧ ∃ b' : One wz, w' = b'.v) := fun b => (HVA.out b.v).mono fun e w' ⟨he, hw⟩ => ⟨he, b, hw⟩
        have HC2 : Hid (∀ b : One wz, Calls Tryz.prog 243 #[.string D] b.v fun e w' => e = .returned (.float .f64 xl) ∧ ∃ b' : One wz, w' = b'.v) := fun b => (HVB.out b.v).mono fun e w' ⟨he, hw⟩ => ⟨he, b, hw⟩
        unfold isOne
        simp only [List.take_succ_cons, List.take_zero, List.drop_succ_cons, List.drop_zero]
        repeat (go_big_quiet_step (first | with_reducible exact HC1.out _ | with_reducible exact HC2.out _))
        refine wpQuiet_nil ?_
        refine ⟨by kernel_rfl, .pointer (some ⟨wz.heap.size, 0, none⟩), wz.alloc (.cells #[.float .f64 0, .float .f64 0] 230), ?_, ?_, ?_⟩
        · go_simp
        · generalize wz.alloc (.cells #[.float .f64 0, .float .f64 0] 230) = wy
          have HD1 : Hid (∀ b : One wy, Calls Tryz.prog 243 #[.string ByteArray.empty] b.v fun e w' => e = .returned (.float .f64 xh) ∧ ∃ b' : One wy, w' = b'.v) := fun b => (HVA.out b.v).mono fun e w' ⟨he, hw⟩ => ⟨he, b, hw⟩
          have HD2 : Hid (∀ b : One wy, Calls Tryz.prog 243 #[.string D] b.v fun e w' => e = .returned (.float .f64 xl) ∧ ∃ b' : One wy, w' = b'.v) := fun b => (HVB.out b.v).mono fun e w' ⟨he, hw⟩ => ⟨he, b, hw⟩
          clear HC1 HC2
          repeat (go_big_quiet_step (first | with_reducible exact HD1.out _ | with_reducible exact HD2.out _))
          exact wpQuiet_nil rfl
        clear HC1 HC2
        go_wp2_with fail
        show wpQuiet _ _ _ _ _ _
        refine wpQuiet_nil ?_
        go_wp2_with fail
        have HBE := HB1.out
        first
        | (refine bodyPost_ret (v := .tuple #[.agg #[.float .f64 xh, .float .f64 xl], .bool true]) ?_ rfl ?_
           · simp [results, Tryz.results205, go_sem, hlt, hne, hne2, hc1, hc2]
           · exact ⟨rfl, Below.alloc (Below.setCell (Below.setCell HBE (Nat.le_refl _) _) (Nat.le_refl _) _) (by simp; omega) _⟩)
        | (refine bodyPost_ret (v := .tuple #[.agg #[.float .f64 (opp xh), .float .f64 (opp xl)], .bool true]) ?_ rfl ?_
           · simp [results, Tryz.results205, go_sem, hlt, hne, hne2, hc1, hc2]
           · exact ⟨rfl, Below.alloc (Below.setCell (Below.setCell HBE (Nat.le_refl _) _) (Nat.le_refl _) _) (by simp; omega) _⟩)
  by_cases hz8 : D.size = 9
  · have hz : D.size = 9 := hz8
    obtain rfl : at' = 0 := by omega
    have g1 : A = ByteArray.empty := by rw [← t1]; exact ByteArray.ext (Array.ext' (by rw [← Lib.toList_data, Lib.extract_toList]; simp))
    have g2 : B = D := by
      rw [← t2]
      refine ByteArray.ext (Array.ext' ?_)
      rw [← Lib.toList_data, Lib.extract_toList, List.drop_zero, Nat.sub_zero, List.take_of_length_le (by simp)]
    rw [g1] at HVA
    rw [g2] at HVB
    have m1 : IntKind.i64.wrap ((D.size : Int) - 9) = 0 := by rw [IntWalk.i64_in _ (by omega)]; omega
    clear t1 t2 hat k2 k3 k4 g1 g2 hz hz8
    cases neg
    all_goals
      go_enter Tryz.func205, Tryz.ntmps205
      go_wp2_with (first
        | (go_at_call 156; refine (HC.out _).mono ?_; rintro e w' ⟨rfl, rfl⟩)
        | (go_at_call 160; refine (HN.out _).mono ?_; rintro e w' ⟨rfl, rfl⟩))
      all_goals first
        | (exfalso; omega)
        | skip
      all_goals
        refine wp_region_made 9 1 39 _ (by kernel_rfl) (by kernel_rfl) (by kernel_rfl) (Nat.le_refl 39) rfl ?_
        have HB1 : Hid (Below w.heap.size w (w.alloc (.cells #[.float .f64 0, .float .f64 0] 230)).drew) := Below.drew ((Below.refl _ _).alloc (Nat.le_refl _) _)
        have hc1 : (w.alloc (.cells #[.float .f64 0, .float .f64 0] 230)).drew.cell? ⟨w.heap.size, 0, none⟩ = some (.float .f64 0) := by go_simp
        have hc2 : (w.alloc (.cells #[.float .f64 0, .float .f64 0] 230)).drew.cell? ⟨w.heap.size, 1, none⟩ = some (.float .f64 0) := by go_simp
        have hf1 : (w.alloc (.cells #[.float .f64 0, .float .f64 0] 230)).drew.frozen? ⟨w.heap.size, 0, none⟩ = false := by go_simp
        have hf2 : (w.alloc (.cells #[.float .f64 0, .float .f64 0] 230)).drew.frozen? ⟨w.heap.size, 1, none⟩ = false := by go_simp
        have hsz : w.heap.size + 1 ≤ (w.alloc (.cells #[.float .f64 0, .float .f64 0] 230)).drew.heap.size := by simp
        generalize (w.alloc (.cells #[.float .f64 0, .float .f64 0] 230)).drew = wz at HB1 hc1 hc2 hf1 hf2 hsz ⊢
        have hne : w.heap.size ≠ wz.heap.size := by omega
        have hne2 : wz.heap.size ≠ w.heap.size := by omega
        have hlt : w.heap.size < wz.heap.size := by omega
        have hd1 : (wz.alloc (.cells #[.float .f64 0, .float .f64 0] 230)).cell? ⟨w.heap.size, 0, none⟩ = some (.float .f64 0) := by rw [World.cell?_alloc_lt (h := hlt)]; exact hc1
        have hd2 : (wz.alloc (.cells #[.float .f64 0, .float .f64 0] 230)).cell? ⟨w.heap.size, 1, none⟩ = some (.float .f64 0) := by rw [World.cell?_alloc_lt (h := hlt)]; exact hc2
        clear hsz
        have HC1 : Hid (∀ b : One wz, Calls Tryz.prog 243 #[.string ByteArray.empty] b.v fun e w' => e = .returned (.float .f64 xh) ∧ ∃ b' : One wz, w' = b'.v) := fun b => (HVA.out b.v).mono fun e w' ⟨he, hw⟩ => ⟨he, b, hw⟩
        have HC2 : Hid (∀ b : One wz, Calls Tryz.prog 243 #[.string D] b.v fun e w' => e = .returned (.float .f64 xl) ∧ ∃ b' : One wz, w' = b'.v) := fun b => (HVB.out b.v).mono fun e w' ⟨he, hw⟩ => ⟨he, b, hw⟩
        unfold isOne
        simp only [List.take_succ_cons, List.take_zero, List.drop_succ_cons, List.drop_zero]
        repeat (go_big_quiet_step (first | with_reducible exact HC1.out _ | with_reducible exact HC2.out _))
        refine wpQuiet_nil ?_
        refine ⟨by kernel_rfl, .pointer (some ⟨wz.heap.size, 0, none⟩), wz.alloc (.cells #[.float .f64 0, .float .f64 0] 230), ?_, ?_, ?_⟩
        · go_simp
        · generalize wz.alloc (.cells #[.float .f64 0, .float .f64 0] 230) = wy
          have HD1 : Hid (∀ b : One wy, Calls Tryz.prog 243 #[.string ByteArray.empty] b.v fun e w' => e = .returned (.float .f64 xh) ∧ ∃ b' : One wy, w' = b'.v) := fun b => (HVA.out b.v).mono fun e w' ⟨he, hw⟩ => ⟨he, b, hw⟩
          have HD2 : Hid (∀ b : One wy, Calls Tryz.prog 243 #[.string D] b.v fun e w' => e = .returned (.float .f64 xl) ∧ ∃ b' : One wy, w' = b'.v) := fun b => (HVB.out b.v).mono fun e w' ⟨he, hw⟩ => ⟨he, b, hw⟩
          clear HC1 HC2
          repeat (go_big_quiet_step (first | with_reducible exact HD1.out _ | with_reducible exact HD2.out _))
          exact wpQuiet_nil rfl
        clear HC1 HC2
        go_wp2_with fail
        show wpQuiet _ _ _ _ _ _
        refine wpQuiet_nil ?_
        go_wp2_with fail
        have HBE := HB1.out
        first
        | (refine bodyPost_ret (v := .tuple #[.agg #[.float .f64 xh, .float .f64 xl], .bool true]) ?_ rfl ?_
           · simp [results, Tryz.results205, go_sem, hlt, hne, hne2, hc1, hc2]
           · exact ⟨rfl, Below.alloc (Below.setCell (Below.setCell HBE (Nat.le_refl _) _) (Nat.le_refl _) _) (by simp; omega) _⟩)
        | (refine bodyPost_ret (v := .tuple #[.agg #[.float .f64 (opp xh), .float .f64 (opp xl)], .bool true]) ?_ rfl ?_
           · simp [results, Tryz.results205, go_sem, hlt, hne, hne2, hc1, hc2]
           · exact ⟨rfl, Below.alloc (Below.setCell (Below.setCell HBE (Nat.le_refl _) _) (Nat.le_refl _) _) (by simp; omega) _⟩)
  · subst hat
    have m1 : ¬ (D.size : Int) - 9 ≤ 0 := by omega
    have m2 : (((D.size : Int) - 9).toNat) = D.size - 9 := by omega
    have m3 : 0 ≤ (D.size : Int) - 9 := by omega
    have m4 : (D.size : Int) - 9 ≤ (D.size : Int) := by omega
    clear k3 k4
    cases neg
    all_goals
      go_enter Tryz.func205, Tryz.ntmps205
      go_wp2_with (first
        | (go_at_call 156; refine (HC.out _).mono ?_; rintro e w' ⟨rfl, rfl⟩)
        | (go_at_call 160; refine (HN.out _).mono ?_; rintro e w' ⟨rfl, rfl⟩))
      all_goals first
        | (exfalso; omega)
        | skip
      all_goals
        refine wp_region_made 9 1 39 _ (by kernel_rfl) (by kernel_rfl) (by kernel_rfl) (Nat.le_refl 39) rfl ?_
        have HB1 : Hid (Below w.heap.size w (w.alloc (.cells #[.float .f64 0, .float .f64 0] 230)).drew) := Below.drew ((Below.refl _ _).alloc (Nat.le_refl _) _)
        have hc1 : (w.alloc (.cells #[.float .f64 0, .float .f64 0] 230)).drew.cell? ⟨w.heap.size, 0, none⟩ = some (.float .f64 0) := by go_simp
        have hc2 : (w.alloc (.cells #[.float .f64 0, .float .f64 0] 230)).drew.cell? ⟨w.heap.size, 1, none⟩ = some (.float .f64 0) := by go_simp
        have hf1 : (w.alloc (.cells #[.float .f64 0, .float .f64 0] 230)).drew.frozen? ⟨w.heap.size, 0, none⟩ = false := by go_simp
        have hf2 : (w.alloc (.cells #[.float .f64 0, .float .f64 0] 230)).drew.frozen? ⟨w.heap.size, 1, none⟩ = false := by go_simp
        have hsz : w.heap.size + 1 ≤ (w.alloc (.cells #[.float .f64 0, .float .f64 0] 230)).drew.heap.size := by simp
        generalize (w.alloc (.cells #[.float .f64 0, .float .f64 0] 230)).drew = wz at HB1 hc1 hc2 hf1 hf2 hsz ⊢
        have hne : w.heap.size ≠ wz.heap.size := by omega
        have hne2 : wz.heap.size ≠ w.heap.size := by omega
        have hlt : w.heap.size < wz.heap.size := by omega
        have hd1 : (wz.alloc (.cells #[.float .f64 0, .float .f64 0] 230)).cell? ⟨w.heap.size, 0, none⟩ = some (.float .f64 0) := by rw [World.cell?_alloc_lt (h := hlt)]; exact hc1
        have hd2 : (wz.alloc (.cells #[.float .f64 0, .float .f64 0] 230)).cell? ⟨w.heap.size, 1, none⟩ = some (.float .f64 0) := by rw [World.cell?_alloc_lt (h := hlt)]; exact hc2
        clear hsz
        have HC1 : Hid (∀ b : One wz, Calls Tryz.prog 243 #[.string A] b.v fun e w' => e = .returned (.float .f64 xh) ∧ ∃ b' : One wz, w' = b'.v) := fun b => (HVA.out b.v).mono fun e w' ⟨he, hw⟩ => ⟨he, b, hw⟩
        have HC2 : Hid (∀ b : One wz, Calls Tryz.prog 243 #[.string B] b.v fun e w' => e = .returned (.float .f64 xl) ∧ ∃ b' : One wz, w' = b'.v) := fun b => (HVB.out b.v).mono fun e w' ⟨he, hw⟩ => ⟨he, b, hw⟩
        unfold isOne
        simp only [List.take_succ_cons, List.take_zero, List.drop_succ_cons, List.drop_zero]
        repeat (go_big_quiet_step (first | with_reducible exact HC1.out _ | with_reducible exact HC2.out _))
        refine wpQuiet_nil ?_
        refine ⟨by kernel_rfl, .pointer (some ⟨wz.heap.size, 0, none⟩), wz.alloc (.cells #[.float .f64 0, .float .f64 0] 230), ?_, ?_, ?_⟩
        · go_simp
        · generalize wz.alloc (.cells #[.float .f64 0, .float .f64 0] 230) = wy
          have HD1 : Hid (∀ b : One wy, Calls Tryz.prog 243 #[.string A] b.v fun e w' => e = .returned (.float .f64 xh) ∧ ∃ b' : One wy, w' = b'.v) := fun b => (HVA.out b.v).mono fun e w' ⟨he, hw⟩ => ⟨he, b, hw⟩
          have HD2 : Hid (∀ b : One wy, Calls Tryz.prog 243 #[.string B] b.v fun e w' => e = .returned (.float .f64 xl) ∧ ∃ b' : One wy, w' = b'.v) := fun b => (HVB.out b.v).mono fun e w' ⟨he, hw⟩ => ⟨he, b, hw⟩
          clear HC1 HC2
          repeat (go_big_quiet_step (first | with_reducible exact HD1.out _ | with_reducible exact HD2.out _))
          exact wpQuiet_nil rfl
        clear HC1 HC2
        go_wp2_with fail
        show wpQuiet _ _ _ _ _ _
        refine wpQuiet_nil ?_
        go_wp2_with fail
        have HBE := HB1.out
        first
        | (refine bodyPost_ret (v := .tuple #[.agg #[.float .f64 xh, .float .f64 xl], .bool true]) ?_ rfl ?_
           · simp [results, Tryz.results205, go_sem, hlt, hne, hne2, hc1, hc2]
           · exact ⟨rfl, Below.alloc (Below.setCell (Below.setCell HBE (Nat.le_refl _) _) (Nat.le_refl _) _) (by simp; omega) _⟩)
        | (refine bodyPost_ret (v := .tuple #[.agg #[.float .f64 (opp xh), .float .f64 (opp xl)], .bool true]) ?_ rfl ?_
           · simp [results, Tryz.results205, go_sem, hlt, hne, hne2, hc1, hc2]
           · exact ⟨rfl, Below.alloc (Below.setCell (Below.setCell HBE (Nat.le_refl _) _) (Nat.le_refl _) _) (by simp; omega) _⟩)
end Go.Proofs.YtcmjpkfinbakkaaGreatDoor.Vf.Ck

namespace Go.Proofs.YtcmjpkfinbakkaaGreatDoor.Vf.Ck
set_option maxRecDepth 100000
open Go.RowKit
set_option linter.unusedVariables false

set_option maxRecDepth 100000 in
set_option maxHeartbeats 2000000 in
theorem read_bad (S D : ByteArray) (e2 : (if hp S ⟨#[45]⟩ = true then S.extract (⟨#[45]⟩ : ByteArray).size S.size else S) = D) (hnb : numB D = false) (hD : D.size ≤ 1200000) (w : World) :
    Calls Tryz.prog 205 #[.string S] w fun e w' => e = .returned (.tuple #[.agg #[.float .f64 0, .float .f64 0], .bool false]) ∧ Below w.heap.size w w' := by
  have hc := CutPrefix_any S ⟨#[45]⟩
  rw [e2] at hc
  have hn := Number_any D
  rw [hnb] at hn
  obtain ⟨g, hg⟩ : ∃ g, hp S ⟨#[45]⟩ = g := ⟨_, rfl⟩
  rw [hg] at hc
  have HC := Lib.hid hc
  have HN := Lib.hid (fun w => hn w (by omega))
  clear hc hn e2 hnb hD hg
  have hsf := run_store_float
  go_enter Tryz.func205, Tryz.ntmps205
  go_wp2_with (first
    | (go_at_call 156; refine (HC.out _).mono ?_; rintro e w' ⟨rfl, rfl⟩)
    | (go_at_call 160; refine (HN.out _).mono ?_; rintro e w' ⟨rfl, rfl⟩))
  refine bodyPost_ret (v := .tuple #[.agg #[.float .f64 0, .float .f64 0], .bool false]) ?_ rfl ?_
  · simp [results, Tryz.results205, go_sem]
  · refine ⟨rfl, ?_⟩
    exact (Below.refl _ _).alloc (Nat.le_refl _) _
theorem numB_all {D : ByteArray} (h : numB D = true) : D.data.toList.length ≤ 18 ∧ ∀ c ∈ D.data.toList, isDig c = true := by
  unfold numB lead at h
  simp only [Bool.and_eq_true, decide_eq_true_eq, beq_iff_eq] at h
  have hl : D.data.toList.length = D.size := Array.length_toList
  refine ⟨by omega, ?_⟩
  have h3 : (D.data.toList.takeWhile isDig).length = D.data.toList.length := by omega
  have h4 : D.data.toList.takeWhile isDig = D.data.toList := (List.takeWhile_prefix _).eq_of_length h3
  intro c hc
  rw [← h4] at hc
  exact List.all_eq_true.1 (List.all_takeWhile (p := isDig) (l := D.data.toList)) c hc
/-- What is read of a text: always the same. -/
theorem read_fun (S : ByteArray) (hs : S.size ≤ 1100000) : ∃ (x1 x2 : Nat) (k : Bool), ∀ w, Calls Tryz.prog 205 #[.string S] w fun e w' => e = .returned (.tuple #[.agg #[.float .f64 x1, .float .f64 x2], .bool k]) ∧ Below w.heap.size w w' := by
  obtain ⟨D, hD⟩ : ∃ D, (if hp S ⟨#[45]⟩ = true then S.extract (⟨#[45]⟩ : ByteArray).size S.size else S) = D := ⟨_, rfl⟩
  have hDs : D.size ≤ 1200000 := by
    rw [← hD]
    split
    · have : (S.extract (⟨#[45]⟩ : ByteArray).size S.size).size ≤ S.size := by
        rw [ByteArray.size_extract]; omega
      omega
    · omega
  cases hn : numB D
  · exact ⟨0, 0, false, fun w => read_bad S D hD hn hDs w⟩
  · obtain ⟨h1, h2⟩ := numB_all hn
    have he : (⟨D.data.toList.toArray⟩ : ByteArray) = D := by simp
    obtain ⟨l, hl⟩ : ∃ l, D.data.toList = l := ⟨_, rfl⟩
    rw [hl] at h1 h2 he
    have p : (10 : Nat) ^ 9 = 1000000000 := by decide
    have l1 : (l.take (l.length - 9)).length ≤ 9 := by rw [List.length_take]; omega
    have l2 : (l.drop (l.length - 9)).length ≤ 9 := by rw [List.length_drop]; omega
    have v1 := dval_lt (l.take (l.length - 9)) (fun c hc => h2 c (List.mem_of_mem_take hc))
    have v2 := dval_lt (l.drop (l.length - 9)) (fun c hc => h2 c (List.mem_of_mem_drop hc))
    have q1 : (10 : Nat) ^ (l.take (l.length - 9)).length ≤ 10 ^ 9 := Nat.pow_le_pow_right (by omega) l1
    have q2 : (10 : Nat) ^ (l.drop (l.length - 9)).length ≤ 10 ^ 9 := Nat.pow_le_pow_right (by omega) l2
    exact ⟨_, _, true, fun w => read_gen S (hp S ⟨#[45]⟩) l _ _ (l.length - 9) rfl (by rw [he]; exact hD) h2 h1 (by rw [he]; exact hn) rfl rfl rfl l1 l2 (by omega) (by omega) w⟩
theorem holds_fun (x1 x2 y1 y2 : Nat) (op : ByteArray) (h : op ∈ ([⟨#[45, 101, 113]⟩, ⟨#[45, 110, 101]⟩, ⟨#[45, 108, 116]⟩, ⟨#[45, 108, 101]⟩, ⟨#[45, 103, 116]⟩, ⟨#[45, 103, 101]⟩] : List ByteArray)) :
    ∃ R : Bool, ∀ w, Calls Tryz.prog 206 #[.agg #[.float .f64 x1, .float .f64 x2], .string op, .agg #[.float .f64 y1, .float .f64 y2]] w fun e w' => e = .returned (.bool R) ∧ Below w.heap.size w w' := by
  have h5 : ∀ b1 e1, (FloatKind.f64.format.order x1 y1 == some .lt) = b1 → (FloatKind.f64.format.order x1 y1 == some .eq) = e1 → b1 = true → e1 = false := by
    intro b1 e1 h1 h2 h3
    subst h1
    rw [beq_iff_eq] at h3
    rw [← h2, h3]; rfl
  simp only [List.mem_cons, List.not_mem_nil, or_false] at h
  rcases h with rfl | rfl | rfl | rfl | rfl | rfl
  · exact ⟨_, fun w => holds_eq x1 x2 y1 y2 _ _ _ _ rfl rfl rfl rfl (h5 _ _ rfl rfl) w⟩
  · exact ⟨_, fun w => holds_ne x1 x2 y1 y2 _ _ _ _ rfl rfl rfl rfl (h5 _ _ rfl rfl) w⟩
  · exact ⟨_, fun w => holds_lt x1 x2 y1 y2 _ _ _ _ rfl rfl rfl rfl (h5 _ _ rfl rfl) w⟩
  · exact ⟨_, fun w => holds_le x1 x2 y1 y2 _ _ _ _ rfl rfl rfl rfl (h5 _ _ rfl rfl) w⟩
  · exact ⟨_, fun w => holds_gt x1 x2 y1 y2 _ _ _ _ rfl rfl rfl rfl (h5 _ _ rfl rfl) w⟩
  · exact ⟨_, fun w => holds_ge x1 x2 y1 y2 _ _ _ _ rfl rfl rfl rfl (h5 _ _ rfl rfl) w⟩
/-- The signs of comparing. -/
def nine : List ByteArray := [⟨#[61]⟩, ⟨#[33, 61]⟩, ⟨#[45, 101, 113]⟩, ⟨#[45, 110, 101]⟩, ⟨#[45, 108, 116]⟩, ⟨#[45, 108, 101]⟩, ⟨#[45, 103, 116]⟩, ⟨#[45, 103, 101]⟩, ⟨#[45, 110, 116]⟩]
theorem bs_of (op : ByteArray) (l : List UInt8) (h : (op.toList == l) = true) : op = ⟨l.toArray⟩ := by
  rw [beq_iff_eq, Lib.toList_data] at h
  refine ByteArray.ext (Array.ext' ?_)
  rw [h]
set_option maxRecDepth 100000 in
set_option maxHeartbeats 4000000 in
theorem isBinary_yes (op : ByteArray) (h : op ∈ nine) (w : World) : Calls Tryz.prog 154 #[.string op] w fun e w' => e = .returned (.bool true) ∧ w' = w := by
  unfold nine at h
  simp only [List.mem_cons, List.not_mem_nil, or_false] at h
  rcases h with rfl | rfl | rfl | rfl | rfl | rfl | rfl | rfl | rfl
  all_goals
    go_enter Tryz.func154, Tryz.ntmps154
    go_wp2_with fail
    go_ret
    exact ⟨rfl, rfl⟩
theorem not_nine {op : ByteArray} (h : op ∉ nine) : (op.toList == [61]) = false ∧ (op.toList == [33, 61]) = false ∧ (op.toList == [45, 101, 113]) = false ∧ (op.toList == [45, 110, 101]) = false ∧ (op.toList == [45, 108, 116]) = false ∧ (op.toList == [45, 108, 101]) = false ∧ (op.toList == [45, 103, 116]) = false ∧ (op.toList == [45, 103, 101]) = false ∧ (op.toList == [45, 110, 116]) = false := by
  have k : ∀ l : List UInt8, (⟨l.toArray⟩ : ByteArray) ∈ nine → (op.toList == l) = false := by
    intro l hl
    rw [Bool.eq_false_iff]
    intro e
    exact h (by rw [bs_of op l e]; exact hl)
  unfold nine at k
  exact ⟨k _ (by simp), k _ (by simp), k _ (by simp), k _ (by simp), k _ (by simp), k _ (by simp), k _ (by simp), k _ (by simp), k _ (by simp)⟩
set_option maxRecDepth 100000 in
set_option maxHeartbeats 4000000 in
theorem isBinary_no (op : ByteArray) (h : op ∉ nine) (w : World) : Calls Tryz.prog 154 #[.string op] w fun e w' => e = .returned (.bool false) ∧ w' = w := by
  obtain ⟨h1, h2, h3, h4, h5, h6, h7, h8, h9⟩ := not_nine h
  clear h
  go_enter Tryz.func154, Tryz.ntmps154
  go_wp2_with fail
  go_ret
  exact ⟨rfl, rfl⟩
end Go.Proofs.YtcmjpkfinbakkaaGreatDoor.Vf.Ck
