import Derived.Test.YtgmoggpnfabjfaaDoorB
import Derived.Test.YtgmoggpnfabjfaaDoorQV
import Derived.Deep.QuietTactic
namespace Go.Proofs.YtgmoggpnfabjfaaDoor
open Go.RowKit
set_option linter.unusedVariables false

theorem hp_minus (m : Nat) : hp ⟨(45 :: Lib.decDigits m).toArray⟩ ⟨#[45]⟩ = true := by
  unfold hp
  rw [Bool.and_eq_true, decide_eq_true_iff, beq_iff_eq, Lib.extract_toList, Lib.toList_data]
  refine ⟨?_, rfl⟩
  show 1 ≤ (45 :: Lib.decDigits m).length
  simp
theorem hp_mem {s p : ByteArray} (h : hp s p = true) : ∀ c ∈ p.data.toList, c ∈ s.data.toList := by
  unfold hp at h
  rw [Bool.and_eq_true, beq_iff_eq, Lib.extract_toList, Lib.toList_data] at h
  intro c hc
  rw [← h.2] at hc
  exact List.mem_of_mem_take (by simpa using hc)
theorem hp_plus (m : Nat) : hp ⟨(Lib.decDigits m).toArray⟩ ⟨#[45]⟩ = false := by
  rw [Bool.eq_false_iff]
  intro h
  have h1 : (45 : UInt8) ∈ Lib.decDigits m := hp_mem h 45 (by simp)
  have h2 := dec_isDig m 45 h1
  exact absurd h2 (by decide)
theorem numB_dec {m : Nat} (h : (Lib.decDigits m).length ≤ 18) : numB ⟨(Lib.decDigits m).toArray⟩ = true := by
  unfold numB lead
  have h1 := dec_pos m
  rw [takeWhile_all (dec_isDig m)]
  rw [decide_eq_true (show 1 ≤ (⟨(Lib.decDigits m).toArray⟩ : ByteArray).size from h1), decide_eq_true (show (⟨(Lib.decDigits m).toArray⟩ : ByteArray).size ≤ 18 from h)]
  show (true && (true && (_ == _))) = true
  rw [Bool.true_and, Bool.true_and, beq_iff_eq]; rfl
theorem numB_long {s : ByteArray} (h : 18 < s.size) : numB s = false := by
  unfold numB
  rw [decide_eq_false (show ¬ s.size ≤ 18 by omega)]; simp
theorem ext_take (l : List UInt8) (k : Nat) (h : k ≤ l.length) : (⟨l.toArray⟩ : ByteArray).extract 0 k = ⟨(l.take k).toArray⟩ := by
  refine ByteArray.ext (Array.ext' ?_)
  rw [← Lib.toList_data, Lib.extract_toList]
  simp
theorem ext_drop (l : List UInt8) (k : Nat) : (⟨l.toArray⟩ : ByteArray).extract k (⟨l.toArray⟩ : ByteArray).size = ⟨(l.drop k).toArray⟩ := by
  refine ByteArray.ext (Array.ext' ?_)
  rw [← Lib.toList_data, Lib.extract_toList]
  show List.take (l.length - k) (List.drop k l) = List.drop k l
  rw [List.take_of_length_le (by rw [List.length_drop]; exact Nat.le_refl _)]
theorem run_neg (x : Nat) (hx : x < 18446744073709551616) : Op.unary .neg (.float .f64 x) = pure (.float .f64 (opp x)) := by
  rw [← opp_xor hx]; rfl
theorem run_store_float (a : Addr) (k : FloatKind) (x : Nat) (m : Mode) (w : World) : (store a (.float k x) m).run Tryd.prog w = stored Tryd.prog w a (.float k x) m := run_store Tryd.prog w a _ m rfl
/-- What stands ahead of the digits. -/
def mns (neg : Bool) (m : Nat) : List UInt8 := if neg then 45 :: Lib.decDigits m else Lib.decDigits m
theorem cut_minus (neg : Bool) (m : Nat) : hp ⟨(mns neg m).toArray⟩ ⟨#[45]⟩ = neg ∧ (if neg = true then (⟨(mns neg m).toArray⟩ : ByteArray).extract (⟨#[45]⟩ : ByteArray).size (⟨(mns neg m).toArray⟩ : ByteArray).size else ⟨(mns neg m).toArray⟩) = ⟨(Lib.decDigits m).toArray⟩ := by
  cases neg
  · exact ⟨hp_plus m, rfl⟩
  · refine ⟨hp_minus m, ?_⟩
    rw [if_pos rfl]
    exact ext_drop (45 :: Lib.decDigits m) 1
set_option maxRecDepth 100000 in
set_option maxHeartbeats 2000000 in
theorem read_long (neg : Bool) (m : Nat) (h : 1000000000000000000 ≤ m) (h2 : m ≤ 9223372036854775808) (w : World) :
    Calls Tryd.prog 16 #[.string ⟨(mns neg m).toArray⟩] w fun e w' => e = .returned (.tuple #[.agg #[.float .f64 0, .float .f64 0], .bool false]) ∧ Below w.heap.size w w' := by
  have hc := CutPrefix_any ⟨(mns neg m).toArray⟩ ⟨#[45]⟩
  obtain ⟨e1, e2⟩ := cut_minus neg m
  rw [e1, e2] at hc
  obtain ⟨S, hS⟩ : ∃ S : ByteArray, ⟨(mns neg m).toArray⟩ = S := ⟨_, rfl⟩
  obtain ⟨D, hD⟩ : ∃ D : ByteArray, ⟨(Lib.decDigits m).toArray⟩ = D := ⟨_, rfl⟩
  rw [hS, hD] at hc
  have hD18 : 18 < D.size := by rw [← hD]; exact dec_long m h
  have hDm : D.size ≤ 19 := by rw [← hD]; exact dec_len 18 m (by omega)
  have hn := Number_any D
  rw [numB_long hD18] at hn
  rw [hS]
  have HC := Lib.hid hc
  have HN := Lib.hid (fun w => hn w (by omega))
  clear hc hn hS hD e1 e2 h h2 hD18 hDm
  have hsf := run_store_float
  go_enter Tryd.func16, Tryd.ntmps16
  go_wp2_with (first
    | (go_at_call 22; refine (HC.out _).mono ?_; rintro e w' ⟨rfl, rfl⟩)
    | (go_at_call 23; refine (HN.out _).mono ?_; rintro e w' ⟨rfl, rfl⟩))
  refine bodyPost_ret (v := .tuple #[.agg #[.float .f64 0, .float .f64 0], .bool false]) ?_ rfl ?_
  · simp [results, Tryd.results16, go_sem]
  · refine ⟨rfl, ?_⟩
    exact (Below.refl _ _).alloc (Nat.le_refl _) _
set_option maxRecDepth 100000 in
set_option maxHeartbeats 2000000 in
theorem read_dig (neg : Bool) (m H L at' : Nat) (ha : at' = (Lib.decDigits m).length - 9) (h : m < 1000000000000000000) (hH : dval ((Lib.decDigits m).take at') = H) (hL : dval ((Lib.decDigits m).drop at') = L)
    (l1 : ((Lib.decDigits m).take at').length ≤ 9) (l2 : ((Lib.decDigits m).drop at').length ≤ 9) (hH2 : H < 1000000000) (hL2 : L < 1000000000) (w : World) :
    Calls Tryd.prog 16 #[.string ⟨(mns neg m).toArray⟩] w fun e w' => e = .returned (.tuple #[.agg #[.float .f64 (sgw neg (fl H)), .float .f64 (sgw neg (fl L))], .bool true]) ∧ Below w.heap.size w w' := by
  have hc := CutPrefix_any ⟨(mns neg m).toArray⟩ ⟨#[45]⟩
  obtain ⟨e1, e2⟩ := cut_minus neg m
  rw [e1, e2] at hc
  obtain ⟨S, hS⟩ : ∃ S : ByteArray, ⟨(mns neg m).toArray⟩ = S := ⟨_, rfl⟩
  have hl18 : (Lib.decDigits m).length ≤ 18 := dec_len 17 m (by omega)
  have hn := Number_any ⟨(Lib.decDigits m).toArray⟩
  rw [numB_dec hl18] at hn
  have hle : at' ≤ (Lib.decDigits m).length := by omega
  have t1 := ext_take (Lib.decDigits m) at' hle
  have t2 := ext_drop (Lib.decDigits m) at'
  obtain ⟨A, hA⟩ : ∃ S : ByteArray, ⟨((Lib.decDigits m).take at').toArray⟩ = S := ⟨_, rfl⟩
  obtain ⟨B, hB⟩ : ∃ S : ByteArray, ⟨((Lib.decDigits m).drop at').toArray⟩ = S := ⟨_, rfl⟩
  have va := value_any A
  have vb := value_any B
  have va2 := fun w => va w (by rw [← hA]; exact l1) (by rw [← hA]; exact fun c hc => dec_isDig m c (List.mem_of_mem_take hc))
  have vb2 := fun w => vb w (by rw [← hB]; exact l2) (by rw [← hB]; exact fun c hc => dec_isDig m c (List.mem_of_mem_drop hc))
  have qa : dval A.data.toList = H := by rw [← hA]; exact hH
  have qb : dval B.data.toList = L := by rw [← hB]; exact hL
  rw [qa] at va2
  rw [qb] at vb2
  rw [hA] at t1
  rw [hB] at t2
  have hln : ∀ D : ByteArray, ⟨(Lib.decDigits m).toArray⟩ = D → D.size = (Lib.decDigits m).length := fun D e => by rw [← e]; rfl
  obtain ⟨D, hD⟩ : ∃ D : ByteArray, ⟨(Lib.decDigits m).toArray⟩ = D := ⟨_, rfl⟩
  have hls := hln D hD
  rw [hS, hD] at hc
  rw [hD] at hn t1 t2
  rw [hS]
  have k1 : D.size ≤ 18 := by omega
  have k2 : IntKind.i64.wrap ((D.size : Int) - 9) = (D.size : Int) - 9 := IntWalk.i64_in _ (by omega)
  have k3 : max ((D.size : Int) - 9) 0 = (at' : Int) := by omega
  have k4 : (at' : Int) ≤ (D.size : Int) := by omega
  have n1 := run_neg (fl H) (by have := fl_lt (t := H) (by omega); omega)
  have n2 := run_neg (fl L) (by have := fl_lt (t := L) (by omega); omega)
  obtain ⟨xh, hxh⟩ : ∃ x, fl H = x := ⟨_, rfl⟩
  obtain ⟨xl, hxl⟩ : ∃ x, fl L = x := ⟨_, rfl⟩
  rw [hxh] at va2 n1 ⊢
  rw [hxl] at vb2 n2 ⊢
  have HC := Lib.hid hc
  have HN := Lib.hid (fun w => hn w (by omega))
  have HVA := Lib.hid va2
  have HVB := Lib.hid vb2
  clear hc hn hS hD e1 e2 h hH hL l1 l2 hH2 hL2 hA hB va vb va2 vb2 qa qb hln hxh hxl hl18 hle
  have hsf := run_store_float
  have hat : at' = D.size - 9 := by omega
  clear ha hls
  by_cases hz : D.size ≤ 8
  · obtain rfl : at' = 0 := by omega
    have g1 : A = ByteArray.empty := by rw [← t1]; exact ByteArray.ext (Array.ext' (by rw [← Lib.toList_data, Lib.extract_toList]; simp))
    have g2 : B = D := by
      rw [← t2]
      refine ByteArray.ext (Array.ext' ?_)
      rw [← Lib.toList_data, Lib.extract_toList, List.drop_zero, Nat.sub_zero, List.take_of_length_le (by simp)]
    rw [g1] at HVA
    rw [g2] at HVB
    have m1 : (D.size : Int) - 9 ≤ 0 := by omega
    clear t1 t2 hat k2 k3 k4 g1 g2
    cases neg
    all_goals
      go_enter Tryd.func16, Tryd.ntmps16
      go_wp2_with (first
        | (go_at_call 22; refine (HC.out _).mono ?_; rintro e w' ⟨rfl, rfl⟩)
        | (go_at_call 23; refine (HN.out _).mono ?_; rintro e w' ⟨rfl, rfl⟩))
      all_goals first
        | (exfalso; omega)
        | skip
      all_goals
        refine wp_region_made 9 1 39 _ (by kernel_rfl) (by kernel_rfl) (by kernel_rfl) (Nat.le_refl 39) rfl ?_
        have HB1 : Hid (Below w.heap.size w (w.alloc (.cells #[.float .f64 0, .float .f64 0] 47)).drew) := Below.drew ((Below.refl _ _).alloc (Nat.le_refl _) _)
        have hc1 : (w.alloc (.cells #[.float .f64 0, .float .f64 0] 47)).drew.cell? ⟨w.heap.size, 0, none⟩ = some (.float .f64 0) := by go_simp
        have hc2 : (w.alloc (.cells #[.float .f64 0, .float .f64 0] 47)).drew.cell? ⟨w.heap.size, 1, none⟩ = some (.float .f64 0) := by go_simp
        have hf1 : (w.alloc (.cells #[.float .f64 0, .float .f64 0] 47)).drew.frozen? ⟨w.heap.size, 0, none⟩ = false := by go_simp
        have hf2 : (w.alloc (.cells #[.float .f64 0, .float .f64 0] 47)).drew.frozen? ⟨w.heap.size, 1, none⟩ = false := by go_simp
        have hsz : w.heap.size + 1 ≤ (w.alloc (.cells #[.float .f64 0, .float .f64 0] 47)).drew.heap.size := by simp
        generalize (w.alloc (.cells #[.float .f64 0, .float .f64 0] 47)).drew = wz at HB1 hc1 hc2 hf1 hf2 hsz ⊢
        have hne : w.heap.size ≠ wz.heap.size := by omega
        have hne2 : wz.heap.size ≠ w.heap.size := by omega
        have hlt : w.heap.size < wz.heap.size := by omega
        have hd1 : (wz.alloc (.cells #[.float .f64 0, .float .f64 0] 47)).cell? ⟨w.heap.size, 0, none⟩ = some (.float .f64 0) := by rw [World.cell?_alloc_lt (h := hlt)]; exact hc1
        have hd2 : (wz.alloc (.cells #[.float .f64 0, .float .f64 0] 47)).cell? ⟨w.heap.size, 1, none⟩ = some (.float .f64 0) := by rw [World.cell?_alloc_lt (h := hlt)]; exact hc2
        clear hsz
        have HC1 : Hid (∀ b : One wz, Calls Tryd.prog 24 #[.string ByteArray.empty] b.v fun e w' => e = .returned (.float .f64 xh) ∧ ∃ b' : One wz, w' = b'.v) := fun b => (HVA.out b.v).mono fun e w' ⟨he, hw⟩ => ⟨he, b, hw⟩
        have HC2 : Hid (∀ b : One wz, Calls Tryd.prog 24 #[.string D] b.v fun e w' => e = .returned (.float .f64 xl) ∧ ∃ b' : One wz, w' = b'.v) := fun b => (HVB.out b.v).mono fun e w' ⟨he, hw⟩ => ⟨he, b, hw⟩
        unfold isOne
        simp only [List.take_succ_cons, List.take_zero, List.drop_succ_cons, List.drop_zero]
        repeat (go_big_quiet_step (first | with_reducible exact HC1.out _ | with_reducible exact HC2.out _))
        refine wpQuiet_nil ?_
        refine ⟨by kernel_rfl, .pointer (some ⟨wz.heap.size, 0, none⟩), wz.alloc (.cells #[.float .f64 0, .float .f64 0] 47), ?_, ?_, ?_⟩
        · go_simp
        · generalize wz.alloc (.cells #[.float .f64 0, .float .f64 0] 47) = wy
          have HD1 : Hid (∀ b : One wy, Calls Tryd.prog 24 #[.string ByteArray.empty] b.v fun e w' => e = .returned (.float .f64 xh) ∧ ∃ b' : One wy, w' = b'.v) := fun b => (HVA.out b.v).mono fun e w' ⟨he, hw⟩ => ⟨he, b, hw⟩
          have HD2 : Hid (∀ b : One wy, Calls Tryd.prog 24 #[.string D] b.v fun e w' => e = .returned (.float .f64 xl) ∧ ∃ b' : One wy, w' = b'.v) := fun b => (HVB.out b.v).mono fun e w' ⟨he, hw⟩ => ⟨he, b, hw⟩
          clear HC1 HC2
          repeat (go_big_quiet_step (first | with_reducible exact HD1.out _ | with_reducible exact HD2.out _))
          exact wpQuiet_nil rfl
        clear HC1 HC2
        go_wp2_with fail
        show wpQuiet _ _ _ _ _ _
        refine wpQuiet_nil ?_
        go_wp2_with fail
        have HBE := HB1.out
        first
        | (refine bodyPost_ret (v := .tuple #[.agg #[.float .f64 xh, .float .f64 xl], .bool true]) ?_ rfl ?_
           · simp [results, Tryd.results16, go_sem, hlt, hne, hne2, hc1, hc2]
           · exact ⟨rfl, Below.alloc (Below.setCell (Below.setCell HBE (Nat.le_refl _) _) (Nat.le_refl _) _) (by simp; omega) _⟩)
        | (refine bodyPost_ret (v := .tuple #[.agg #[.float .f64 (opp xh), .float .f64 (opp xl)], .bool true]) ?_ rfl ?_
           · simp [results, Tryd.results16, go_sem, hlt, hne, hne2, hc1, hc2]
           · exact ⟨rfl, Below.alloc (Below.setCell (Below.setCell HBE (Nat.le_refl _) _) (Nat.le_refl _) _) (by simp; omega) _⟩)
  by_cases hz8 : D.size = 9
  · have hz : D.size = 9 := hz8
    obtain rfl : at' = 0 := by omega
    have g1 : A = ByteArray.empty := by rw [← t1]; exact ByteArray.ext (Array.ext' (by rw [← Lib.toList_data, Lib.extract_toList]; simp))
    have g2 : B = D := by
      rw [← t2]
      refine ByteArray.ext (Array.ext' ?_)
      rw [← Lib.toList_data, Lib.extract_toList, List.drop_zero, Nat.sub_zero, List.take_of_length_le (by simp)]
    rw [g1] at HVA
    rw [g2] at HVB
    have m1 : IntKind.i64.wrap ((D.size : Int) - 9) = 0 := by rw [IntWalk.i64_in _ (by omega)]; omega
    clear t1 t2 hat k2 k3 k4 g1 g2 hz hz8
    cases neg
    all_goals
      go_enter Tryd.func16, Tryd.ntmps16
      go_wp2_with (first
        | (go_at_call 22; refine (HC.out _).mono ?_; rintro e w' ⟨rfl, rfl⟩)
        | (go_at_call 23; refine (HN.out _).mono ?_; rintro e w' ⟨rfl, rfl⟩))
      all_goals first
        | (exfalso; omega)
        | skip
      all_goals
        refine wp_region_made 9 1 39 _ (by kernel_rfl) (by kernel_rfl) (by kernel_rfl) (Nat.le_refl 39) rfl ?_
        have HB1 : Hid (Below w.heap.size w (w.alloc (.cells #[.float .f64 0, .float .f64 0] 47)).drew) := Below.drew ((Below.refl _ _).alloc (Nat.le_refl _) _)
        have hc1 : (w.alloc (.cells #[.float .f64 0, .float .f64 0] 47)).drew.cell? ⟨w.heap.size, 0, none⟩ = some (.float .f64 0) := by go_simp
        have hc2 : (w.alloc (.cells #[.float .f64 0, .float .f64 0] 47)).drew.cell? ⟨w.heap.size, 1, none⟩ = some (.float .f64 0) := by go_simp
        have hf1 : (w.alloc (.cells #[.float .f64 0, .float .f64 0] 47)).drew.frozen? ⟨w.heap.size, 0, none⟩ = false := by go_simp
        have hf2 : (w.alloc (.cells #[.float .f64 0, .float .f64 0] 47)).drew.frozen? ⟨w.heap.size, 1, none⟩ = false := by go_simp
        have hsz : w.heap.size + 1 ≤ (w.alloc (.cells #[.float .f64 0, .float .f64 0] 47)).drew.heap.size := by simp
        generalize (w.alloc (.cells #[.float .f64 0, .float .f64 0] 47)).drew = wz at HB1 hc1 hc2 hf1 hf2 hsz ⊢
        have hne : w.heap.size ≠ wz.heap.size := by omega
        have hne2 : wz.heap.size ≠ w.heap.size := by omega
        have hlt : w.heap.size < wz.heap.size := by omega
        have hd1 : (wz.alloc (.cells #[.float .f64 0, .float .f64 0] 47)).cell? ⟨w.heap.size, 0, none⟩ = some (.float .f64 0) := by rw [World.cell?_alloc_lt (h := hlt)]; exact hc1
        have hd2 : (wz.alloc (.cells #[.float .f64 0, .float .f64 0] 47)).cell? ⟨w.heap.size, 1, none⟩ = some (.float .f64 0) := by rw [World.cell?_alloc_lt (h := hlt)]; exact hc2
        clear hsz
        have HC1 : Hid (∀ b : One wz, Calls Tryd.prog 24 #[.string ByteArray.empty] b.v fun e w' => e = .returned (.float .f64 xh) ∧ ∃ b' : One wz, w' = b'.v) := fun b => (HVA.out b.v).mono fun e w' ⟨he, hw⟩ => ⟨he, b, hw⟩
        have HC2 : Hid (∀ b : One wz, Calls Tryd.prog 24 #[.string D] b.v fun e w' => e = .returned (.float .f64 xl) ∧ ∃ b' : One wz, w' = b'.v) := fun b => (HVB.out b.v).mono fun e w' ⟨he, hw⟩ => ⟨he, b, hw⟩
        unfold isOne
        simp only [List.take_succ_cons, List.take_zero, List.drop_succ_cons, List.drop_zero]
        repeat (go_big_quiet_step (first | with_reducible exact HC1.out _ | with_reducible exact HC2.out _))
        refine wpQuiet_nil ?_
        refine ⟨by kernel_rfl, .pointer (some ⟨wz.heap.size, 0, none⟩), wz.alloc (.cells #[.float .f64 0, .float .f64 0] 47), ?_, ?_, ?_⟩
        · go_simp
        · generalize wz.alloc (.cells #[.float .f64 0, .float .f64 0] 47) = wy
          have HD1 : Hid (∀ b : One wy, Calls Tryd.prog 24 #[.string ByteArray.empty] b.v fun e w' => e = .returned (.float .f64 xh) ∧ ∃ b' : One wy, w' = b'.v) := fun b => (HVA.out b.v).mono fun e w' ⟨he, hw⟩ => ⟨he, b, hw⟩
          have HD2 : Hid (∀ b : One wy, Calls Tryd.prog 24 #[.string D] b.v fun e w' => e = .returned (.float .f64 xl) ∧ ∃ b' : One wy, w' = b'.v) := fun b => (HVB.out b.v).mono fun e w' ⟨he, hw⟩ => ⟨he, b, hw⟩
          clear HC1 HC2
          repeat (go_big_quiet_step (first | with_reducible exact HD1.out _ | with_reducible exact HD2.out _))
          exact wpQuiet_nil rfl
        clear HC1 HC2
        go_wp2_with fail
        show wpQuiet _ _ _ _ _ _
        refine wpQuiet_nil ?_
        go_wp2_with fail
        have HBE := HB1.out
        first
        | (refine bodyPost_ret (v := .tuple #[.agg #[.float .f64 xh, .float .f64 xl], .bool true]) ?_ rfl ?_
           · simp [results, Tryd.results16, go_sem, hlt, hne, hne2, hc1, hc2]
           · exact ⟨rfl, Below.alloc (Below.setCell (Below.setCell HBE (Nat.le_refl _) _) (Nat.le_refl _) _) (by simp; omega) _⟩)
        | (refine bodyPost_ret (v := .tuple #[.agg #[.float .f64 (opp xh), .float .f64 (opp xl)], .bool true]) ?_ rfl ?_
           · simp [results, Tryd.results16, go_sem, hlt, hne, hne2, hc1, hc2]
           · exact ⟨rfl, Below.alloc (Below.setCell (Below.setCell HBE (Nat.le_refl _) _) (Nat.le_refl _) _) (by simp; omega) _⟩)
  · subst hat
    have m1 : ¬ (D.size : Int) - 9 ≤ 0 := by omega
    have m2 : (((D.size : Int) - 9).toNat) = D.size - 9 := by omega
    have m3 : 0 ≤ (D.size : Int) - 9 := by omega
    have m4 : (D.size : Int) - 9 ≤ (D.size : Int) := by omega
    clear k3 k4
    cases neg
    all_goals
      go_enter Tryd.func16, Tryd.ntmps16
      go_wp2_with (first
        | (go_at_call 22; refine (HC.out _).mono ?_; rintro e w' ⟨rfl, rfl⟩)
        | (go_at_call 23; refine (HN.out _).mono ?_; rintro e w' ⟨rfl, rfl⟩))
      all_goals first
        | (exfalso; omega)
        | skip
      all_goals
        refine wp_region_made 9 1 39 _ (by kernel_rfl) (by kernel_rfl) (by kernel_rfl) (Nat.le_refl 39) rfl ?_
        have HB1 : Hid (Below w.heap.size w (w.alloc (.cells #[.float .f64 0, .float .f64 0] 47)).drew) := Below.drew ((Below.refl _ _).alloc (Nat.le_refl _) _)
        have hc1 : (w.alloc (.cells #[.float .f64 0, .float .f64 0] 47)).drew.cell? ⟨w.heap.size, 0, none⟩ = some (.float .f64 0) := by go_simp
        have hc2 : (w.alloc (.cells #[.float .f64 0, .float .f64 0] 47)).drew.cell? ⟨w.heap.size, 1, none⟩ = some (.float .f64 0) := by go_simp
        have hf1 : (w.alloc (.cells #[.float .f64 0, .float .f64 0] 47)).drew.frozen? ⟨w.heap.size, 0, none⟩ = false := by go_simp
        have hf2 : (w.alloc (.cells #[.float .f64 0, .float .f64 0] 47)).drew.frozen? ⟨w.heap.size, 1, none⟩ = false := by go_simp
        have hsz : w.heap.size + 1 ≤ (w.alloc (.cells #[.float .f64 0, .float .f64 0] 47)).drew.heap.size := by simp
        generalize (w.alloc (.cells #[.float .f64 0, .float .f64 0] 47)).drew = wz at HB1 hc1 hc2 hf1 hf2 hsz ⊢
        have hne : w.heap.size ≠ wz.heap.size := by omega
        have hne2 : wz.heap.size ≠ w.heap.size := by omega
        have hlt : w.heap.size < wz.heap.size := by omega
        have hd1 : (wz.alloc (.cells #[.float .f64 0, .float .f64 0] 47)).cell? ⟨w.heap.size, 0, none⟩ = some (.float .f64 0) := by rw [World.cell?_alloc_lt (h := hlt)]; exact hc1
        have hd2 : (wz.alloc (.cells #[.float .f64 0, .float .f64 0] 47)).cell? ⟨w.heap.size, 1, none⟩ = some (.float .f64 0) := by rw [World.cell?_alloc_lt (h := hlt)]; exact hc2
        clear hsz
        have HC1 : Hid (∀ b : One wz, Calls Tryd.prog 24 #[.string A] b.v fun e w' => e = .returned (.float .f64 xh) ∧ ∃ b' : One wz, w' = b'.v) := fun b => (HVA.out b.v).mono fun e w' ⟨he, hw⟩ => ⟨he, b, hw⟩
        have HC2 : Hid (∀ b : One wz, Calls Tryd.prog 24 #[.string B] b.v fun e w' => e = .returned (.float .f64 xl) ∧ ∃ b' : One wz, w' = b'.v) := fun b => (HVB.out b.v).mono fun e w' ⟨he, hw⟩ => ⟨he, b, hw⟩
        unfold isOne
        simp only [List.take_succ_cons, List.take_zero, List.drop_succ_cons, List.drop_zero]
        repeat (go_big_quiet_step (first | with_reducible exact HC1.out _ | with_reducible exact HC2.out _))
        refine wpQuiet_nil ?_
        refine ⟨by kernel_rfl, .pointer (some ⟨wz.heap.size, 0, none⟩), wz.alloc (.cells #[.float .f64 0, .float .f64 0] 47), ?_, ?_, ?_⟩
        · go_simp
        · generalize wz.alloc (.cells #[.float .f64 0, .float .f64 0] 47) = wy
          have HD1 : Hid (∀ b : One wy, Calls Tryd.prog 24 #[.string A] b.v fun e w' => e = .returned (.float .f64 xh) ∧ ∃ b' : One wy, w' = b'.v) := fun b => (HVA.out b.v).mono fun e w' ⟨he, hw⟩ => ⟨he, b, hw⟩
          have HD2 : Hid (∀ b : One wy, Calls Tryd.prog 24 #[.string B] b.v fun e w' => e = .returned (.float .f64 xl) ∧ ∃ b' : One wy, w' = b'.v) := fun b => (HVB.out b.v).mono fun e w' ⟨he, hw⟩ => ⟨he, b, hw⟩
          clear HC1 HC2
          repeat (go_big_quiet_step (first | with_reducible exact HD1.out _ | with_reducible exact HD2.out _))
          exact wpQuiet_nil rfl
        clear HC1 HC2
        go_wp2_with fail
        show wpQuiet _ _ _ _ _ _
        refine wpQuiet_nil ?_
        go_wp2_with fail
        have HBE := HB1.out
        first
        | (refine bodyPost_ret (v := .tuple #[.agg #[.float .f64 xh, .float .f64 xl], .bool true]) ?_ rfl ?_
           · simp [results, Tryd.results16, go_sem, hlt, hne, hne2, hc1, hc2]
           · exact ⟨rfl, Below.alloc (Below.setCell (Below.setCell HBE (Nat.le_refl _) _) (Nat.le_refl _) _) (by simp; omega) _⟩)
        | (refine bodyPost_ret (v := .tuple #[.agg #[.float .f64 (opp xh), .float .f64 (opp xl)], .bool true]) ?_ rfl ?_
           · simp [results, Tryd.results16, go_sem, hlt, hne, hne2, hc1, hc2]
           · exact ⟨rfl, Below.alloc (Below.setCell (Below.setCell HBE (Nat.le_refl _) _) (Nat.le_refl _) _) (by simp; omega) _⟩)
end Go.Proofs.YtgmoggpnfabjfaaDoor
