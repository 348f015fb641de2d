import Derived.Test.YtplhgjngbnkhbaaDoorAA
import Derived.Test.YtplhgjngbnkhbaaDoorX
namespace Go.Proofs.YtplhgjngbnkhbaaDoor
open Go.RowKit
set_option linter.unusedVariables false

theorem dec_isDig (n : Nat) : ∀ c ∈ Lib.decDigits n, isDig c = true := by
  induction n using Nat.strongRecOn with
  | _ n ih =>
    have hd : ∀ k : Fin 10, isDig (UInt8.ofNat (48 + k.val)) = true := by decide
    intro c hc
    by_cases h : n < 10
    · rw [dec_small h, List.mem_singleton] at hc
      rw [hc]
      exact hd ⟨n, h⟩
    · rw [dec_big h] at hc
      rcases List.mem_append.1 hc with hc | hc
      · exact ih (n / 10) (by omega) c hc
      · rw [List.mem_singleton] at hc
        rw [hc]
        exact hd ⟨n % 10, Nat.mod_lt _ (by omega)⟩
theorem dval_dec (n : Nat) : dval (Lib.decDigits n) = n := by
  induction n using Nat.strongRecOn with
  | _ n ih =>
    have hd : ∀ k : Fin 10, (UInt8.ofNat (48 + k.val)).toNat - 48 = k.val := by decide
    by_cases h : n < 10
    · rw [dec_small h]
      have := hd ⟨n, h⟩
      simp only at this
      show 0 * 10 + ((UInt8.ofNat (48 + n)).toNat - 48) = n
      omega
    · rw [dec_big h, dval_snoc, ih (n / 10) (by omega)]
      have : (UInt8.ofNat (48 + n % 10)).toNat - 48 = n % 10 := hd ⟨n % 10, Nat.mod_lt _ (by omega)⟩
      omega
theorem numB_of {s : ByteArray} (h1 : 1 ≤ s.size) (h2 : s.size ≤ 15) (h3 : ∀ c ∈ s.data.toList, isDig c = true) : numB s = true := by
  unfold numB lead
  rw [takeWhile_all h3, decide_eq_true h1, decide_eq_true h2]
  simp
theorem hp_mem {s p : ByteArray} (h : hp s p = true) : ∀ c ∈ p.data.toList, c ∈ s.data.toList := by
  unfold hp at h
  rw [Bool.and_eq_true, beq_iff_eq, Lib.extract_toList, Lib.toList_data] at h
  intro c hc
  rw [← h.2] at hc
  exact List.mem_of_mem_take (by simpa using hc)
theorem hp_no {s p : ByteArray} (c : UInt8) (hc : c ∈ p.data.toList) (hs : c ∉ s.data.toList) : hp s p = false := by
  rw [Bool.eq_false_iff]
  intro h
  exact hs (hp_mem h c hc)
theorem sw_nat (n : Nat) : sw (n : Int) = sgw false (fl n) := by
  unfold sw sgw wl fl
  rw [decide_eq_false (by omega : ¬ (n : Int) < 0), Int.natAbs_natCast, if_neg (by simp)]
theorem sw_neg {n : Nat} (h : 0 < n) : sw (-(n : Int)) = sgw true (fl n) := by
  unfold sw
  rw [decide_eq_true (by omega), Int.natAbs_neg, Int.natAbs_natCast]
  have h1 := fl_word (t := n) true
  rw [h1.1, Nat.mod_eq_of_lt h1.2]
  show _ = opp (fl n)
  unfold opp
  have hs : sg (fl n) = false := by unfold sg; simp; omega
  have hr : rg (fl n) = fl n := by unfold rg; omega
  rw [hs, hr]; rfl
theorem textL_wl (s : Bool) (t : Nat) (ht : t < 1000000000000000) : textL (wl s t) = if s = true ∧ t = 0 then [45, 48] else Lib.itoa (if s then -(t : Int) else (t : Int)) := by
  have ht2 : t < 9007199254740992 := by omega
  have hf := wl_fin ht2 s
  have hn := nan_fin hf
  have hi : infB (wl s t) = false := by unfold infB; rw [beq_eq_false_iff_ne]; omega
  have hr := wl_rg s t
  have hu := un_fl ht2
  have htr : tr (wl s t) = t := by unfold tr; rw [hr.1, hu.1, Nat.mul_div_cancel _ EE_pos]
  have hw : whole (wl s t) = true := by unfold whole; rw [decide_eq_true_iff, htr, hr.1, hu.1]
  have hsm : small (wl s t) = true := by unfold small; rw [decide_eq_true_iff, hr.1, hu.1]; exact Nat.mul_lt_mul_of_pos_right ht EE_pos
  have h0 : wl s t = 9223372036854775808 ↔ (s = true ∧ t = 0) := by
    constructor
    · intro e
      have h1 := hr.1
      have h2 := hr.2.1
      rw [e] at h1 h2
      have e1 : rg 9223372036854775808 = 0 := by decide +kernel
      have e2 : sg 9223372036854775808 = true := by decide +kernel
      refine ⟨by rw [← h2, e2], ?_⟩
      have h3 := hu.1
      rw [← h1, e1] at h3
      rcases Nat.mul_eq_zero.1 h3.symm with h | h
      · exact h
      · have := EE_pos; omega
    · rintro ⟨rfl, rfl⟩
      decide +kernel
  unfold textL
  rw [hn, hi, hsm, hw, htr, hr.2.1]
  simp only [Bool.false_eq_true, if_false, h0, Bool.and_self, if_true]
theorem textL_sw (n : Int) (h : n.natAbs < 1000000000000000) : textL (sw n) = Lib.itoa n := by
  unfold sw
  rw [textL_wl _ _ h, if_neg (by rintro ⟨h1, h2⟩; rw [decide_eq_true_iff] at h1; omega)]
  congr 1
  by_cases hn : n < 0
  · rw [decide_eq_true hn, if_pos rfl]; omega
  · rw [decide_eq_false hn, if_neg (by simp)]; omega
theorem prod_text (a b : Int) (h : (a * b).natAbs < 1000000000000000) : textL (wl (decide (a < 0) ^^ decide (b < 0)) (a.natAbs * b.natAbs)) = if a * b = 0 ∧ (a < 0 ∨ b < 0) then [45, 48] else Lib.itoa (a * b) := by
  rw [← Int.natAbs_mul, textL_wl _ _ h]
  by_cases h0 : a * b = 0
  · rw [h0]
    rcases Int.mul_eq_zero.1 h0 with e | e
    · subst e
      by_cases hb : b < 0 <;> simp [hb]
    · subst e
      by_cases ha : a < 0 <;> simp [ha]
  · have hc : ¬ ((decide (a < 0) ^^ decide (b < 0)) = true ∧ (a * b).natAbs = 0) := fun e => h0 (Int.natAbs_eq_zero.1 e.2)
    have ha0 : a ≠ 0 := fun e => h0 (by rw [e, Int.zero_mul])
    have hb0 : b ≠ 0 := fun e => h0 (by rw [e, Int.mul_zero])
    have key : (if (decide (a < 0) ^^ decide (b < 0)) = true then -(((a * b).natAbs : Nat) : Int) else (((a * b).natAbs : Nat) : Int)) = a * b := by
      by_cases ha : a < 0
      · by_cases hb : b < 0
        · have := Int.mul_pos_of_neg_of_neg ha hb
          rw [decide_eq_true ha, decide_eq_true hb, if_neg (by simp)]; omega
        · have := Int.mul_neg_of_neg_of_pos ha (by omega : 0 < b)
          rw [decide_eq_true ha, decide_eq_false hb, if_pos (by simp)]; omega
      · by_cases hb : b < 0
        · have := Int.mul_neg_of_pos_of_neg (by omega : 0 < a) hb
          rw [decide_eq_false ha, decide_eq_true hb, if_pos (by simp)]; omega
        · have := Int.mul_pos (by omega : 0 < a) (by omega : 0 < b)
          rw [decide_eq_false ha, decide_eq_false hb, if_neg (by simp)]; omega
    rw [key, if_neg hc, if_neg (fun e => h0 e.1)]

theorem Of_int (n : Int) (h : n.natAbs ≤ 33554432) (w : World) :
    Calls Tryd.prog 14 #[.string ⟨(Lib.itoa n).toArray⟩] w fun e w' => e = .returned (.tuple #[.int .u64 (sw n), .bool true]) ∧ Below w.heap.size w w' := by
  by_cases hn : n < 0
  · obtain ⟨m, rfl⟩ : ∃ m : Nat, n = -(m : Int) := ⟨n.natAbs, by omega⟩
    have hm : 0 < m := by omega
    have hl := dec_len 7 m (by omega)
    obtain ⟨c, t, e, _⟩ := dec_head m
    have hp1 : 1 ≤ (Lib.decDigits m).length := by rw [e]; simp
    rw [itoa_neg hm, sw_neg hm]
    have hdg := dec_isDig m
    have hno : ∀ c : UInt8, isDig c = false → c ≠ 45 → c ∉ (45 :: Lib.decDigits m) := by
      intro c h1 h2 h3
      rcases List.mem_cons.1 h3 with h | h
      · exact h2 h
      · rw [hdg c h] at h1; cases h1
    have hcut : (⟨(45 :: Lib.decDigits m).toArray⟩ : ByteArray).extract 1 (⟨(45 :: Lib.decDigits m).toArray⟩ : ByteArray).size = ⟨(Lib.decDigits m).toArray⟩ := by
      refine ByteArray.ext (Array.ext' ?_)
      rw [← Lib.toList_data, Lib.extract_toList]
      show List.drop 1 (List.take (45 :: Lib.decDigits m).length (45 :: Lib.decDigits m)) = _
      rw [List.take_length]; rfl
    have hh : hp ⟨(45 :: Lib.decDigits m).toArray⟩ ⟨#[45]⟩ = true := by
      unfold hp
      rw [Bool.and_eq_true, decide_eq_true_iff, beq_iff_eq, Lib.extract_toList, Lib.toList_data]
      refine ⟨?_, rfl⟩
      show 1 ≤ (45 :: Lib.decDigits m).length
      simp
    have h2 := Of_neg ⟨(45 :: Lib.decDigits m).toArray⟩ w (by show (45 :: Lib.decDigits m).length ≤ _; simp; omega) (hp_no 120 (by simp) (hno 120 (by decide) (by decide))) hh ⟨(Lib.decDigits m).toArray⟩ hcut
      (numB_of (by show 1 ≤ (Lib.decDigits m).length; exact hp1) (by show (Lib.decDigits m).length ≤ 15; omega) hdg)
    have e2 : dval (⟨(Lib.decDigits m).toArray⟩ : ByteArray).data.toList = m := dval_dec m
    rw [e2] at h2
    exact h2
  · obtain ⟨m, rfl⟩ : ∃ m : Nat, n = (m : Int) := ⟨n.toNat, by omega⟩
    have hl := dec_len 7 m (by omega)
    obtain ⟨c, t, e, _⟩ := dec_head m
    have hp1 : 1 ≤ (Lib.decDigits m).length := by rw [e]; simp
    rw [itoa_nat, sw_nat]
    have hdg := dec_isDig m
    have hno : ∀ c : UInt8, isDig c = false → c ∉ Lib.decDigits m := by
      intro c h1 h3
      rw [hdg c h3] at h1; cases h1
    have h2 := Of_num ⟨(Lib.decDigits m).toArray⟩ w (by show (Lib.decDigits m).length ≤ _; omega) (hp_no 120 (by simp) (hno 120 (by decide))) (hp_no 45 (by simp) (hno 45 (by decide))) (hp_no 43 (by simp) (hno 43 (by decide)))
      (numB_of (by show 1 ≤ (Lib.decDigits m).length; exact hp1) (by show (Lib.decDigits m).length ≤ 15; omega) hdg)
    have e2 : dval (⟨(Lib.decDigits m).toArray⟩ : ByteArray).data.toList = m := dval_dec m
    rw [e2] at h2
    exact h2
theorem wraps {n : Int} (h : n.natAbs ≤ 4503599627370496) : IntKind.i64.wrap n = n ∧ wrap64 n = n := by
  refine ⟨by rw [IntKind.wrap_i64]; omega, by unfold wrap64; omega⟩

set_option maxRecDepth 100000 in
set_option maxHeartbeats 8000000 in
theorem whole_walk (a b : Int) (w : World) (hT : Tabs w) :
    Calls Tryd.prog 6 #[.int .i64 a, .int .i64 b] w fun e w' => e = .returned (.bool true) ∧ Below w.heap.size w w' := by
  by_cases c0 : a < -33554432
  case pos =>
    go_enter Tryd.func6, Tryd.ntmps6
    go_wp2_with fail
    refine (alive_any w).mono ?_
    rintro e w1 ⟨rfl, hB⟩
    have HB1 := Lib.hid hB
    clear hB
    go_wp2_with fail
    go_ret
    exact ⟨rfl, HB1.out⟩
  by_cases c1 : 33554432 < a
  case pos =>
    go_enter Tryd.func6, Tryd.ntmps6
    go_wp2_with fail
    refine (alive_any w).mono ?_
    rintro e w1 ⟨rfl, hB⟩
    have HB1 := Lib.hid hB
    clear hB
    go_wp2_with fail
    go_ret
    exact ⟨rfl, HB1.out⟩
  by_cases c2 : b < -33554432
  case pos =>
    go_enter Tryd.func6, Tryd.ntmps6
    go_wp2_with fail
    refine (alive_any w).mono ?_
    rintro e w1 ⟨rfl, hB⟩
    have HB1 := Lib.hid hB
    clear hB
    go_wp2_with fail
    go_ret
    exact ⟨rfl, HB1.out⟩
  by_cases c3 : 33554432 < b
  case pos =>
    go_enter Tryd.func6, Tryd.ntmps6
    go_wp2_with fail
    refine (alive_any w).mono ?_
    rintro e w1 ⟨rfl, hB⟩
    have HB1 := Lib.hid hB
    clear hB
    go_wp2_with fail
    go_ret
    exact ⟨rfl, HB1.out⟩
  have hab : a.natAbs ≤ 33554432 ∧ b.natAbs ≤ 33554432 := by omega
  have hpr : (a * b).natAbs ≤ 1125899906842624 := by
    rw [Int.natAbs_mul]
    exact Nat.mul_le_mul hab.1 hab.2
  obtain ⟨w1', w2'⟩ := wraps (n := a * b) (by omega)
  obtain ⟨w3', w4'⟩ := wraps (n := a + b) (by omega)
  obtain ⟨w5', w6'⟩ := wraps (n := a - b) (by omega)
  have R1 := Lib.hid (fun w => RefInt_any a (by omega) (by omega) w)
  have R2 := Lib.hid (fun w => RefInt_any b (by omega) (by omega) w)
  have R3 := fun w => RefInt_any (a * b) (by omega) (by omega) w
  have R4 := fun w => RefInt_any (a + b) (by omega) (by omega) w
  have R5 := fun w => RefInt_any (a - b) (by omega) (by omega) w
  have F1 := fun w => Of_int a hab.1 w
  have F2 := fun w => Of_int b hab.2 w
  have O1 := fun w => Op_add (sw a) (sw b) w
  have O2 := fun w => Op_sub (sw a) (sw b) w
  have O3 := fun w => Op_mul (sw a) (sw b) w
  have O4 := fun w => Is_lt (sw a) (sw b) w
  have O5 := fun w => Is_eq (sw a) (sw b) w
  rw [add_sw (by omega) (by omega) (by omega), show fo (some (sw (a + b))) = sw (a + b) from rfl] at O1
  rw [sub_sw (by omega) (by omega) (by omega), show fo (some (sw (a - b))) = sw (a - b) from rfl] at O2
  have hmul : D.mul (sw a) (sw b) = some (wl (decide (a < 0) ^^ decide (b < 0)) (a.natAbs * b.natAbs)) := mul_wl (by omega) (by omega) (by rw [← Int.natAbs_mul]; omega)
  rw [hmul, show ∀ z, fo (some z) = z from fun _ => rfl] at O3
  have hlt : (D.order (sw a) (sw b) == some .lt) = decide (a < b) := by rw [order_sw (by omega) (by omega), cmp_lt_iff]
  have heq : (D.order (sw a) (sw b) == some .eq) = (a == b) := by rw [order_sw (by omega) (by omega), cmp_eq_iff, Bool.eq_iff_iff, decide_eq_true_iff, beq_iff_eq]
  rw [hlt] at O4
  rw [heq] at O5
  have T1 : ∀ w, Tabs w → _ := fun w h => Text_any (sw (a + b)) (wl_rg _ _).2.2 w h
  have T2 : ∀ w, Tabs w → _ := fun w h => Text_any (sw (a - b)) (wl_rg _ _).2.2 w h
  have T3 : ∀ w, Tabs w → _ := fun w h => Text_any (wl (decide (a < 0) ^^ decide (b < 0)) (a.natAbs * b.natAbs)) (wl_rg _ _).2.2 w h
  rw [textL_sw (a + b) (by omega)] at T1
  rw [textL_sw (a - b) (by omega)] at T2
  have hpt := prod_text a b
  obtain ⟨xa, hxa⟩ : ∃ x, sw a = x := ⟨_, rfl⟩
  obtain ⟨xb, hxb⟩ : ∃ x, sw b = x := ⟨_, rfl⟩
  obtain ⟨xs, hxs⟩ : ∃ x, sw (a + b) = x := ⟨_, rfl⟩
  obtain ⟨xd, hxd⟩ : ∃ x, sw (a - b) = x := ⟨_, rfl⟩
  obtain ⟨xm, hxm⟩ : ∃ x, wl (decide (a < 0) ^^ decide (b < 0)) (a.natAbs * b.natAbs) = x := ⟨_, rfl⟩
  rw [hxa, hxb] at O1 O2 O3 O4 O5
  rw [hxa] at F1
  rw [hxb] at F2
  rw [hxs] at O1 T1
  rw [hxd] at O2 T2
  rw [hxm] at O3 T3 hpt
  obtain ⟨P, hP⟩ : ∃ P, a * b = P := ⟨_, rfl⟩
  obtain ⟨A, hA⟩ : ∃ P, a + b = P := ⟨_, rfl⟩
  obtain ⟨B, hB0⟩ : ∃ P, a - b = P := ⟨_, rfl⟩
  obtain ⟨SP, hSP⟩ : ∃ S : ByteArray, ⟨(Lib.itoa (a * b)).toArray⟩ = S := ⟨_, rfl⟩
  obtain ⟨SA, hSA⟩ : ∃ S : ByteArray, ⟨(Lib.itoa (a + b)).toArray⟩ = S := ⟨_, rfl⟩
  obtain ⟨SB, hSB⟩ : ∃ S : ByteArray, ⟨(Lib.itoa (a - b)).toArray⟩ = S := ⟨_, rfl⟩
  rw [hSP] at R3
  rw [hSA] at R4 T1
  rw [hSB] at R5 T2
  rw [hP] at R3 w1' w2' hpt hSP
  rw [hA] at R4 w3' w4'
  rw [hB0] at R5 w5' w6'
  rw [hP] at hpr
  have HHT := Lib.hid hT
  have HF1 := Lib.hid F1
  have HF2 := Lib.hid F2
  have HO1 := Lib.hid O1
  have HO2 := Lib.hid O2
  have HO3 := Lib.hid O3
  have HO4 := Lib.hid O4
  have HO5 := Lib.hid O5
  have HR3 := Lib.hid R3
  have HR4 := Lib.hid R4
  have HR5 := Lib.hid R5
  have HT1 := Lib.hid T1
  have HT2 := Lib.hid T2
  have HT3 := Lib.hid T3
  have HPT := Lib.hid hpt
  have HSP := Lib.hid hSP
  have HPR := Lib.hid hpr
  clear F1 F2 O1 O2 O3 O4 O5 R3 R4 R5 T1 T2 T3 hmul hlt heq hxa hxb hxs hxd hxm hSA hSB hSP hpt hT hab hpr
  by_cases p1 : 999999999999999 < P
  case pos =>
    have p0 : (P == 0) = false := by rw [beq_eq_false_iff_ne]; omega
    go_enter Tryd.func6, Tryd.ntmps6
    go_wp2_with fail
    refine (alive_any w).mono ?_
    rintro e w1 ⟨rfl, hB⟩
    have HB1 := Lib.hid hB
    clear hB
    go_wp2_with fail
    refine (R1.out w1).mono ?_
    rintro e w' ⟨rfl, h⟩
    obtain rfl := h.symm
    go_wp2_with fail
    refine (HF1.out w1).mono ?_
    rintro e w2 ⟨rfl, hB⟩
    have HB2 := Lib.hid (below_trans HB1.out hB)
    clear hB
    go_wp2_with fail
    refine (R2.out w2).mono ?_
    rintro e w' ⟨rfl, h⟩
    obtain rfl := h.symm
    go_wp2_with fail
    refine (HF2.out w2).mono ?_
    rintro e w3 ⟨rfl, hB⟩
    have HB3 := Lib.hid (below_trans HB2.out hB)
    clear hB
    go_wp2_with fail
    refine (HO1.out w3).mono ?_
    rintro e w4 ⟨rfl, h⟩
    have HB4 := Lib.hid (below_trans HB3.out (below_drew h))
    clear h
    go_wp2_with fail
    refine (HO2.out w4).mono ?_
    rintro e w5 ⟨rfl, h⟩
    have HB5 := Lib.hid (below_trans HB4.out (below_drew h))
    clear h
    go_wp2_with fail
    refine (HO3.out w5).mono ?_
    rintro e w6 ⟨rfl, h⟩
    have HB6 := Lib.hid (below_trans HB5.out (below_drew h))
    clear h
    go_wp2_with fail
    refine (HO4.out w6).mono ?_
    rintro e w' ⟨rfl, h⟩
    obtain rfl := h.symm
    go_wp2_with fail
    refine (HO5.out w6).mono ?_
    rintro e w' ⟨rfl, h⟩
    obtain rfl := h.symm
    go_wp2_with fail
    refine (HR3.out w6).mono ?_
    rintro e w' ⟨rfl, h⟩
    obtain rfl := h.symm
    go_wp2_with fail
    go_ret
    exact ⟨rfl, HB6.out⟩
  by_cases p2 : P < -999999999999999
  case pos =>
    have p0 : (P == 0) = false := by rw [beq_eq_false_iff_ne]; omega
    go_enter Tryd.func6, Tryd.ntmps6
    go_wp2_with fail
    refine (alive_any w).mono ?_
    rintro e w1 ⟨rfl, hB⟩
    have HB1 := Lib.hid hB
    clear hB
    go_wp2_with fail
    refine (R1.out w1).mono ?_
    rintro e w' ⟨rfl, h⟩
    obtain rfl := h.symm
    go_wp2_with fail
    refine (HF1.out w1).mono ?_
    rintro e w2 ⟨rfl, hB⟩
    have HB2 := Lib.hid (below_trans HB1.out hB)
    clear hB
    go_wp2_with fail
    refine (R2.out w2).mono ?_
    rintro e w' ⟨rfl, h⟩
    obtain rfl := h.symm
    go_wp2_with fail
    refine (HF2.out w2).mono ?_
    rintro e w3 ⟨rfl, hB⟩
    have HB3 := Lib.hid (below_trans HB2.out hB)
    clear hB
    go_wp2_with fail
    refine (HO1.out w3).mono ?_
    rintro e w4 ⟨rfl, h⟩
    have HB4 := Lib.hid (below_trans HB3.out (below_drew h))
    clear h
    go_wp2_with fail
    refine (HO2.out w4).mono ?_
    rintro e w5 ⟨rfl, h⟩
    have HB5 := Lib.hid (below_trans HB4.out (below_drew h))
    clear h
    go_wp2_with fail
    refine (HO3.out w5).mono ?_
    rintro e w6 ⟨rfl, h⟩
    have HB6 := Lib.hid (below_trans HB5.out (below_drew h))
    clear h
    go_wp2_with fail
    refine (HO4.out w6).mono ?_
    rintro e w' ⟨rfl, h⟩
    obtain rfl := h.symm
    go_wp2_with fail
    refine (HO5.out w6).mono ?_
    rintro e w' ⟨rfl, h⟩
    obtain rfl := h.symm
    go_wp2_with fail
    refine (HR3.out w6).mono ?_
    rintro e w' ⟨rfl, h⟩
    obtain rfl := h.symm
    go_wp2_with fail
    go_ret
    exact ⟨rfl, HB6.out⟩
  have hpt := HPT.out (by omega)
  by_cases p0 : P = 0
  · have e0 : (P == 0) = true := by rw [beq_iff_eq]; exact p0
    by_cases n1 : a < 0
    · rw [if_pos ⟨p0, .inl n1⟩] at hpt
      have HTM := HT3.out
      rw [hpt] at HTM
      have HT3 := Lib.hid HTM
      clear hpt HTM p0
      go_enter Tryd.func6, Tryd.ntmps6
      go_wp2_with fail
      refine (alive_any w).mono ?_
      rintro e w1 ⟨rfl, hB⟩
      have HB1 := Lib.hid hB
      clear hB
      go_wp2_with fail
      refine (R1.out w1).mono ?_
      rintro e w' ⟨rfl, h⟩
      obtain rfl := h.symm
      go_wp2_with fail
      refine (HF1.out w1).mono ?_
      rintro e w2 ⟨rfl, hB⟩
      have HB2 := Lib.hid (below_trans HB1.out hB)
      clear hB
      go_wp2_with fail
      refine (R2.out w2).mono ?_
      rintro e w' ⟨rfl, h⟩
      obtain rfl := h.symm
      go_wp2_with fail
      refine (HF2.out w2).mono ?_
      rintro e w3 ⟨rfl, hB⟩
      have HB3 := Lib.hid (below_trans HB2.out hB)
      clear hB
      go_wp2_with fail
      refine (HO1.out w3).mono ?_
      rintro e w4 ⟨rfl, h⟩
      have HB4 := Lib.hid (below_trans HB3.out (below_drew h))
      clear h
      go_wp2_with fail
      refine (HO2.out w4).mono ?_
      rintro e w5 ⟨rfl, h⟩
      have HB5 := Lib.hid (below_trans HB4.out (below_drew h))
      clear h
      go_wp2_with fail
      refine (HO3.out w5).mono ?_
      rintro e w6 ⟨rfl, h⟩
      have HB6 := Lib.hid (below_trans HB5.out (below_drew h))
      clear h
      go_wp2_with fail
      refine (HO4.out w6).mono ?_
      rintro e w' ⟨rfl, h⟩
      obtain rfl := h.symm
      go_wp2_with fail
      refine (HO5.out w6).mono ?_
      rintro e w' ⟨rfl, h⟩
      obtain rfl := h.symm
      go_wp2_with fail
      refine (HR3.out w6).mono ?_
      rintro e w' ⟨rfl, h⟩
      obtain rfl := h.symm
      go_wp2_with fail
      refine (HT1.out w6 (HHT.out.below HB6.out)).mono ?_
      rintro e w7 ⟨rfl, hB⟩
      have HB7 := Lib.hid (below_trans HB6.out hB)
      clear hB
      go_wp2_with fail
      refine (HR4.out w7).mono ?_
      rintro e w' ⟨rfl, h⟩
      obtain rfl := h.symm
      go_wp2_with fail
      refine (HT2.out w7 (HHT.out.below HB7.out)).mono ?_
      rintro e w8 ⟨rfl, hB⟩
      have HB8 := Lib.hid (below_trans HB7.out hB)
      clear hB
      go_wp2_with fail
      refine (HR5.out w8).mono ?_
      rintro e w' ⟨rfl, h⟩
      obtain rfl := h.symm
      go_wp2_with fail
      refine (HT3.out w8 (HHT.out.below HB8.out)).mono ?_
      rintro e w9 ⟨rfl, hB⟩
      have HB9 := Lib.hid (below_trans HB8.out hB)
      clear hB
      go_wp2_with fail
      go_ret
      exact ⟨rfl, HB9.out⟩
    · by_cases n2 : b < 0
      · rw [if_pos ⟨p0, .inr n2⟩] at hpt
        have HTM := HT3.out
        rw [hpt] at HTM
        have HT3 := Lib.hid HTM
        clear hpt HTM p0
        go_enter Tryd.func6, Tryd.ntmps6
        go_wp2_with fail
        refine (alive_any w).mono ?_
        rintro e w1 ⟨rfl, hB⟩
        have HB1 := Lib.hid hB
        clear hB
        go_wp2_with fail
        refine (R1.out w1).mono ?_
        rintro e w' ⟨rfl, h⟩
        obtain rfl := h.symm
        go_wp2_with fail
        refine (HF1.out w1).mono ?_
        rintro e w2 ⟨rfl, hB⟩
        have HB2 := Lib.hid (below_trans HB1.out hB)
        clear hB
        go_wp2_with fail
        refine (R2.out w2).mono ?_
        rintro e w' ⟨rfl, h⟩
        obtain rfl := h.symm
        go_wp2_with fail
        refine (HF2.out w2).mono ?_
        rintro e w3 ⟨rfl, hB⟩
        have HB3 := Lib.hid (below_trans HB2.out hB)
        clear hB
        go_wp2_with fail
        refine (HO1.out w3).mono ?_
        rintro e w4 ⟨rfl, h⟩
        have HB4 := Lib.hid (below_trans HB3.out (below_drew h))
        clear h
        go_wp2_with fail
        refine (HO2.out w4).mono ?_
        rintro e w5 ⟨rfl, h⟩
        have HB5 := Lib.hid (below_trans HB4.out (below_drew h))
        clear h
        go_wp2_with fail
        refine (HO3.out w5).mono ?_
        rintro e w6 ⟨rfl, h⟩
        have HB6 := Lib.hid (below_trans HB5.out (below_drew h))
        clear h
        go_wp2_with fail
        refine (HO4.out w6).mono ?_
        rintro e w' ⟨rfl, h⟩
        obtain rfl := h.symm
        go_wp2_with fail
        refine (HO5.out w6).mono ?_
        rintro e w' ⟨rfl, h⟩
        obtain rfl := h.symm
        go_wp2_with fail
        refine (HR3.out w6).mono ?_
        rintro e w' ⟨rfl, h⟩
        obtain rfl := h.symm
        go_wp2_with fail
        refine (HT1.out w6 (HHT.out.below HB6.out)).mono ?_
        rintro e w7 ⟨rfl, hB⟩
        have HB7 := Lib.hid (below_trans HB6.out hB)
        clear hB
        go_wp2_with fail
        refine (HR4.out w7).mono ?_
        rintro e w' ⟨rfl, h⟩
        obtain rfl := h.symm
        go_wp2_with fail
        refine (HT2.out w7 (HHT.out.below HB7.out)).mono ?_
        rintro e w8 ⟨rfl, hB⟩
        have HB8 := Lib.hid (below_trans HB7.out hB)
        clear hB
        go_wp2_with fail
        refine (HR5.out w8).mono ?_
        rintro e w' ⟨rfl, h⟩
        obtain rfl := h.symm
        go_wp2_with fail
        refine (HT3.out w8 (HHT.out.below HB8.out)).mono ?_
        rintro e w9 ⟨rfl, hB⟩
        have HB9 := Lib.hid (below_trans HB8.out hB)
        clear hB
        go_wp2_with fail
        go_ret
        exact ⟨rfl, HB9.out⟩
      · rw [if_neg (by rintro ⟨_, h | h⟩; exact n1 h; exact n2 h)] at hpt
        have HTM := HT3.out
        rw [hpt, HSP.out] at HTM
        have HT3 := Lib.hid HTM
        clear hpt HTM p0
        go_enter Tryd.func6, Tryd.ntmps6
        go_wp2_with fail
        refine (alive_any w).mono ?_
        rintro e w1 ⟨rfl, hB⟩
        have HB1 := Lib.hid hB
        clear hB
        go_wp2_with fail
        refine (R1.out w1).mono ?_
        rintro e w' ⟨rfl, h⟩
        obtain rfl := h.symm
        go_wp2_with fail
        refine (HF1.out w1).mono ?_
        rintro e w2 ⟨rfl, hB⟩
        have HB2 := Lib.hid (below_trans HB1.out hB)
        clear hB
        go_wp2_with fail
        refine (R2.out w2).mono ?_
        rintro e w' ⟨rfl, h⟩
        obtain rfl := h.symm
        go_wp2_with fail
        refine (HF2.out w2).mono ?_
        rintro e w3 ⟨rfl, hB⟩
        have HB3 := Lib.hid (below_trans HB2.out hB)
        clear hB
        go_wp2_with fail
        refine (HO1.out w3).mono ?_
        rintro e w4 ⟨rfl, h⟩
        have HB4 := Lib.hid (below_trans HB3.out (below_drew h))
        clear h
        go_wp2_with fail
        refine (HO2.out w4).mono ?_
        rintro e w5 ⟨rfl, h⟩
        have HB5 := Lib.hid (below_trans HB4.out (below_drew h))
        clear h
        go_wp2_with fail
        refine (HO3.out w5).mono ?_
        rintro e w6 ⟨rfl, h⟩
        have HB6 := Lib.hid (below_trans HB5.out (below_drew h))
        clear h
        go_wp2_with fail
        refine (HO4.out w6).mono ?_
        rintro e w' ⟨rfl, h⟩
        obtain rfl := h.symm
        go_wp2_with fail
        refine (HO5.out w6).mono ?_
        rintro e w' ⟨rfl, h⟩
        obtain rfl := h.symm
        go_wp2_with fail
        refine (HR3.out w6).mono ?_
        rintro e w' ⟨rfl, h⟩
        obtain rfl := h.symm
        go_wp2_with fail
        refine (HT1.out w6 (HHT.out.below HB6.out)).mono ?_
        rintro e w7 ⟨rfl, hB⟩
        have HB7 := Lib.hid (below_trans HB6.out hB)
        clear hB
        go_wp2_with fail
        refine (HR4.out w7).mono ?_
        rintro e w' ⟨rfl, h⟩
        obtain rfl := h.symm
        go_wp2_with fail
        refine (HT2.out w7 (HHT.out.below HB7.out)).mono ?_
        rintro e w8 ⟨rfl, hB⟩
        have HB8 := Lib.hid (below_trans HB7.out hB)
        clear hB
        go_wp2_with fail
        refine (HR5.out w8).mono ?_
        rintro e w' ⟨rfl, h⟩
        obtain rfl := h.symm
        go_wp2_with fail
        refine (HT3.out w8 (HHT.out.below HB8.out)).mono ?_
        rintro e w9 ⟨rfl, hB⟩
        have HB9 := Lib.hid (below_trans HB8.out hB)
        clear hB
        go_wp2_with fail
        go_ret
        exact ⟨rfl, HB9.out⟩
  · have e0 : (P == 0) = false := by rw [beq_eq_false_iff_ne]; exact p0
    rw [if_neg (fun h => p0 h.1)] at hpt
    have HTM := HT3.out
    rw [hpt, HSP.out] at HTM
    have HT3 := Lib.hid HTM
    clear hpt HTM p0
    go_enter Tryd.func6, Tryd.ntmps6
    go_wp2_with fail
    refine (alive_any w).mono ?_
    rintro e w1 ⟨rfl, hB⟩
    have HB1 := Lib.hid hB
    clear hB
    go_wp2_with fail
    refine (R1.out w1).mono ?_
    rintro e w' ⟨rfl, h⟩
    obtain rfl := h.symm
    go_wp2_with fail
    refine (HF1.out w1).mono ?_
    rintro e w2 ⟨rfl, hB⟩
    have HB2 := Lib.hid (below_trans HB1.out hB)
    clear hB
    go_wp2_with fail
    refine (R2.out w2).mono ?_
    rintro e w' ⟨rfl, h⟩
    obtain rfl := h.symm
    go_wp2_with fail
    refine (HF2.out w2).mono ?_
    rintro e w3 ⟨rfl, hB⟩
    have HB3 := Lib.hid (below_trans HB2.out hB)
    clear hB
    go_wp2_with fail
    refine (HO1.out w3).mono ?_
    rintro e w4 ⟨rfl, h⟩
    have HB4 := Lib.hid (below_trans HB3.out (below_drew h))
    clear h
    go_wp2_with fail
    refine (HO2.out w4).mono ?_
    rintro e w5 ⟨rfl, h⟩
    have HB5 := Lib.hid (below_trans HB4.out (below_drew h))
    clear h
    go_wp2_with fail
    refine (HO3.out w5).mono ?_
    rintro e w6 ⟨rfl, h⟩
    have HB6 := Lib.hid (below_trans HB5.out (below_drew h))
    clear h
    go_wp2_with fail
    refine (HO4.out w6).mono ?_
    rintro e w' ⟨rfl, h⟩
    obtain rfl := h.symm
    go_wp2_with fail
    refine (HO5.out w6).mono ?_
    rintro e w' ⟨rfl, h⟩
    obtain rfl := h.symm
    go_wp2_with fail
    refine (HR3.out w6).mono ?_
    rintro e w' ⟨rfl, h⟩
    obtain rfl := h.symm
    go_wp2_with fail
    refine (HT1.out w6 (HHT.out.below HB6.out)).mono ?_
    rintro e w7 ⟨rfl, hB⟩
    have HB7 := Lib.hid (below_trans HB6.out hB)
    clear hB
    go_wp2_with fail
    refine (HR4.out w7).mono ?_
    rintro e w' ⟨rfl, h⟩
    obtain rfl := h.symm
    go_wp2_with fail
    refine (HT2.out w7 (HHT.out.below HB7.out)).mono ?_
    rintro e w8 ⟨rfl, hB⟩
    have HB8 := Lib.hid (below_trans HB7.out hB)
    clear hB
    go_wp2_with fail
    refine (HR5.out w8).mono ?_
    rintro e w' ⟨rfl, h⟩
    obtain rfl := h.symm
    go_wp2_with fail
    refine (HT3.out w8 (HHT.out.below HB8.out)).mono ?_
    rintro e w9 ⟨rfl, hB⟩
    have HB9 := Lib.hid (below_trans HB8.out hB)
    clear hB
    go_wp2_with fail
    go_ret
    exact ⟨rfl, HB9.out⟩
theorem whole_law (a b : Int) (wx : (Lit.int .i64 a).wf = true) (wy : (Lit.int .i64 b).wf = true) (w : World) (hT : Tabs w) : Calls Tryd.prog 6 #[.int .i64 a, .int .i64 b] w fun e w' => e = .returned (.bool true) ∧ Below w.heap.size w w' := whole_walk a b w hT
end Go.Proofs.YtplhgjngbnkhbaaDoor
