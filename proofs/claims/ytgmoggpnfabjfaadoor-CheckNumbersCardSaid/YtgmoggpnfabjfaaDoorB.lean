import Derived.Test.YtgmoggpnfabjfaaDoorA
import Derived.Test.YtgmoggpnfabjfaaDoorRows
import Derived.WalkKit
import Derived.WalkSpells
import Derived.WalkLawsBesides
import Derived.Laws.FloatArith
import Derived.Lib.Hide
import Derived.RegionTactic
import Derived.BigRegion
import Derived.BigQuiet
import Derived.IntWalk
import Derived.Deep.QuietTactic
import Derived.Deep.LoopGhost
namespace Go.Proofs.YtgmoggpnfabjfaaDoor
open Go.RowKit
set_option linter.unusedVariables false

/-- Does s begin with p? -/
def hp (s p : ByteArray) : Bool := decide (p.size ≤ s.size) && ((s.extract 0 p.size).toList == p.toList)


set_option maxHeartbeats 1000000 in
theorem HasPrefix_lite (s p : ByteArray) (w : World) :
    Calls Tryd.prog 39 #[.string s, .string p] w fun e w' => e = .returned (.bool (hp s p)) ∧ w' = w := by
  by_cases h : p.size ≤ s.size
  · have HE : Hid (hp s p = ((s.extract 0 p.size).toList == p.toList)) := by unfold Hid hp; simp [h]
    go_enter Tryd.func39, Tryd.ntmps39
    go_wp2
    go_ret
    refine ⟨?_, rfl⟩
    rw [HE.out]; rfl
  · have HE : Hid (hp s p = false) := by unfold Hid hp; simp [h]
    go_enter Tryd.func39, Tryd.ntmps39
    go_wp2
    go_ret
    refine ⟨?_, rfl⟩
    rw [HE.out]; rfl

theorem CutPrefix_lite (s p : ByteArray) (w : World) :
    Calls Tryd.prog 31 #[.string s, .string p] w fun e w' => e = .returned (.tuple #[.string (if hp s p = true then s.extract p.size s.size else s), .bool (hp s p)]) ∧ w' = w := by
  cases h : hp s p
  · have H := Lib.hid h
    clear h
    go_enter Tryd.func31, Tryd.ntmps31
    go_wp2_with (go_at_call 39; refine (HasPrefix_lite _ _ _).mono ?_; rw [H.out]; rintro e w' ⟨rfl, rfl⟩)
    go_ret2
    exact ⟨rfl, rfl⟩
  · have hle : p.size ≤ s.size := by unfold hp at h; simp at h; exact h.1
    have H := Lib.hid h
    clear h
    go_enter Tryd.func31, Tryd.ntmps31
    go_wp2_with (go_at_call 39; refine (HasPrefix_lite _ _ _).mono ?_; rw [H.out]; rintro e w' ⟨rfl, rfl⟩)
    go_ret2
    exact ⟨rfl, rfl⟩

theorem CutPrefix_any (s p : ByteArray) (w : World) :
    Calls Tryd.prog 22 #[.string s, .string p] w fun e w' => e = .returned (.tuple #[.string (if hp s p = true then s.extract p.size s.size else s), .bool (hp s p)]) ∧ w' = w := by
  obtain ⟨r, hr⟩ : ∃ r, (if hp s p = true then s.extract p.size s.size else s) = r := ⟨_, rfl⟩
  have HR := Lib.hid hr
  rw [hr]
  clear hr
  go_enter Tryd.func22, Tryd.ntmps22
  go_wp2_with (go_at_call 31; refine (CutPrefix_lite s p _).mono ?_; rw [HR.out]; rintro e w' ⟨rfl, rfl⟩)
  go_ret2
  exact ⟨rfl, rfl⟩


theorem Digit_any (c : UInt8) (w : World) : Calls Tryd.prog 40 #[.int .u8 c.toNat] w fun e w' => e = .returned (.bool (isDig c)) ∧ w' = w := by
  by_cases h1 : 48 ≤ c.toNat
  · by_cases h2 : c.toNat ≤ 57
    · have d2 : decide ((c.toNat : Int) ≤ 57) = true := by simp; omega
      have H : Hid (isDig c = true) := by unfold Hid isDig; simp [h1, h2]
      go_enter Tryd.func40, Tryd.ntmps40
      go_wp2
      go_ret
      exact ⟨by rw [H.out]; rfl, rfl⟩
    · have d2 : decide ((c.toNat : Int) ≤ 57) = false := by simp; omega
      have H : Hid (isDig c = false) := by unfold Hid isDig; simp; omega
      go_enter Tryd.func40, Tryd.ntmps40
      go_wp2
      go_ret
      exact ⟨by rw [H.out]; rfl, rfl⟩
  · have H : Hid (isDig c = false) := by unfold Hid isDig; simp; omega
    go_enter Tryd.func40, Tryd.ntmps40
    go_wp2
    go_ret
    exact ⟨by rw [H.out]; rfl, rfl⟩


set_option maxRecDepth 100000 in
set_option maxHeartbeats 1000000 in
theorem Digits_any (s : ByteArray) (w : World) (hs : s.size ≤ 100000) : Calls Tryd.prog 32 #[.string s] w fun e w' => e = .returned (.int .i64 (lead s)) ∧ w' = w := by
  go_enter Tryd.func32, Tryd.ntmps32
  go_wp2_with fail
  go_loop [3] (fun n => ∃ k : Nat, k ≤ s.size ∧ n = .int .i64 k ∧ Hid (∀ i, i < k → isDig (gb s i) = true)) (fun n => s.size - (intOf n).toNat)
  case atStart => exact ⟨0, by omega, rfl, Lib.hid (fun i h => absurd h (by omega))⟩
  case round =>
    obtain ⟨k, hk, rfl, HA⟩ := hrel
    by_cases hlt : k < s.size
    · have hgb := gb_eq s k hlt
      have hltI : (k : Int) < (s.size : Int) := by omega
      cases hd : isDig (gb s k)
      · have HD := Lib.hid hd
        clear hd
        go_wp2_with (go_at_call 40; refine (Digit_any _ _).mono ?_; rw [HD.out]; rintro e w' ⟨rfl, rfl⟩)
        go_ret
        exact ⟨by rw [lead_iff s k hk HA.out (.inr HD.out)]; rfl, rfl⟩
      · have HD := Lib.hid hd
        clear hd
        go_wp2_with (go_at_call 40; refine (Digit_any _ _).mono ?_; rw [HD.out]; rintro e w' ⟨rfl, rfl⟩)
        go_round
        case rel =>
          refine ⟨k + 1, by omega, by go_num, Lib.hid (fun i hi => ?_)⟩
          by_cases h : i < k
          · exact HA.out i h
          · rw [show i = k by omega]; exact HD.out
        case measure => simp [intOf]; omega
    · have hdf : decide ((k : Int) < (s.size : Int)) = false := by simp; omega
      have HE : Hid (lead s = k) := lead_iff s k hk HA.out (.inl (by omega))
      go_wp2_with fail
      go_ret
      exact ⟨by rw [HE.out]; rfl, rfl⟩

/-- One to eighteen digits? -/
def numB (s : ByteArray) : Bool := decide (1 ≤ s.size) && (decide (s.size ≤ 18) && (lead s == s.size))

set_option maxRecDepth 100000 in
set_option maxHeartbeats 1000000 in
theorem Number_any (s : ByteArray) (w : World) (hs : s.size ≤ 9223372036854775807) : Calls Tryd.prog 23 #[.string s, .int .i64 1, .int .i64 18] w fun e w' => e = .returned (.bool (numB s)) ∧ w' = w := by
  by_cases h1 : 1 ≤ s.size
  · by_cases h2 : s.size ≤ 18
    · have h1' : (1 : Int) ≤ (s.size : Int) := by omega
      have h2' : (s.size : Int) ≤ 18 := by omega
      have H : Hid (numB s = ((lead s : Int) == (s.size : Int))) := by
        unfold Hid numB; simp [h1, h2]; rw [Bool.eq_iff_iff]; simp; omega
      go_enter Tryd.func23, Tryd.ntmps23
      go_wp2_with (go_at_call 32; refine (Digits_any _ _ (by omega)).mono ?_; rintro e w' ⟨rfl, rfl⟩)
      go_ret
      exact ⟨by rw [H.out]; rfl, rfl⟩
    · have h2' : ¬ (s.size : Int) ≤ 18 := by omega
      have d2 : decide ((s.size : Int) ≤ 18) = false := by simp; omega
      have h1' : (1 : Int) ≤ (s.size : Int) := by omega
      have H : Hid (numB s = false) := by unfold Hid numB; simp [h2]
      go_enter Tryd.func23, Tryd.ntmps23
      go_wp2_with fail
      go_ret
      exact ⟨by rw [H.out]; rfl, rfl⟩
  · have h1' : ¬ (1 : Int) ≤ (s.size : Int) := by omega
    have d1 : decide ((1 : Int) ≤ (s.size : Int)) = false := by simp; omega
    have H : Hid (numB s = false) := by unfold Hid numB; simp [h1]
    go_enter Tryd.func23, Tryd.ntmps23
    go_wp2_with fail
    go_ret
    exact ⟨by rw [H.out]; rfl, rfl⟩


theorem run_mul (x y r : Nat) (h : D.mul x y = some r) (w : World) : (binOp .mul 45 (.float .f64 x) (.float .f64 y)).run Tryd.prog w = .ok (.float .f64 r) w := run_float_arith w .mul 45 .f64 x y r h

theorem run_add (x y r : Nat) (h : D.add x y = some r) (w : World) : (binOp .add 45 (.float .f64 x) (.float .f64 y)).run Tryd.prog w = .ok (.float .f64 r) w := run_float_arith w .add 45 .f64 x y r h


set_option maxRecDepth 100000 in
set_option maxHeartbeats 2000000 in
theorem RefDigits_any (n : Nat) (hn : n < 9223372036854775808) (w : World) :
    Calls Tryd.prog 12 #[.int .i64 n] w fun e w' => e = .returned (.string ⟨(Lib.decDigits n).toArray⟩) ∧ w' = w := by
  induction n using Nat.strongRecOn generalizing w with
  | _ n ih =>
    obtain ⟨R, hR⟩ : ∃ R, Lib.decDigits n = R := ⟨_, rfl⟩
    rw [hR]
    obtain ⟨k, hk⟩ : ∃ k, n % 10 = k := ⟨_, rfl⟩
    have hk10 : k < 10 := by omega
    have hm : (n : Int) % 10 = (k : Int) := by omega
    have hm2 : (n : Int).tmod 10 = (k : Int) := by rw [Int.tmod_eq_emod_of_nonneg (by omega)]; omega
    have hsl := digit_slice ⟨k, hk10⟩
    simp only at hsl
    obtain ⟨z, hz⟩ : ∃ z : ByteArray, ⟨#[UInt8.ofNat (48 + k)]⟩ = z := ⟨_, rfl⟩
    rw [hz] at hsl
    have HZ := Lib.hid hz
    have HR := Lib.hid hR
    have q1 : (k : Int) ≤ 10 := by omega
    have q2 : (k : Int) + 1 ≤ 10 := by omega
    have q3 : (0 : Int) ≤ (k : Int) := by omega
    have w1 : IntKind.i64.wrap ((k : Int) + 1) = (k : Int) + 1 := by rw [IntKind.wrap_i64]; omega
    have w2 : wrap64 ((k : Int) + 1) = (k : Int) + 1 := by unfold wrap64; omega
    have HK := Lib.hid hk
    by_cases h9 : n < 10
    · have b1 : ¬ (9 : Int) < (n : Int) := by omega
      have HD : Hid (R = [UInt8.ofNat (48 + k)]) := by rw [Hid, ← hR, dec_small h9, show k = n by omega]
      clear hk hR hz ih
      go_enter Tryd.func12, Tryd.ntmps12
      go_wp2_with fail
      go_ret
      exact ⟨by rw [HD.out, ← HZ.out]; rfl, rfl⟩
    · have b1 : (9 : Int) < (n : Int) := by omega
      have HD : Hid (R = Lib.decDigits (n / 10) ++ [UInt8.ofNat (48 + k)]) := by rw [Hid, ← hR, dec_big h9, hk]
      obtain ⟨m, hmm⟩ : ∃ m, n / 10 = m := ⟨_, rfl⟩
      rw [hmm] at HD
      have hd2 : (n : Int).tdiv 10 = (m : Int) := by rw [Int.tdiv_eq_ediv_of_nonneg (by omega)]; omega
      have hd3 : (n : Int) / 10 = (m : Int) := by omega
      have hi := ih m (by omega) (by omega) w
      obtain ⟨S, hS⟩ : ∃ S : ByteArray, ⟨(Lib.decDigits m).toArray⟩ = S := ⟨_, rfl⟩
      have hSs : S.size ≤ 19 := by
        rw [← hS]
        exact dec_len 18 m (by omega)
      have hzs : z.size = 1 := by rw [← HZ.out]; rfl
      rw [hS] at hi
      have HS := Lib.hid hS
      have w3 : IntKind.i64.wrap (m : Int) = (m : Int) := by rw [IntKind.wrap_i64]; omega
      have w4 : wrap64 (m : Int) = (m : Int) := by unfold wrap64; omega
      have HI := Lib.hid hi
      clear hk hR hz ih hi hmm hS
      go_enter Tryd.func12, Tryd.ntmps12
      go_wp2_with fail
      refine HI.out.mono ?_
      rintro e w' ⟨rfl, hw⟩
      obtain rfl := hw.symm
      go_wp2_with fail
      go_ret
      refine ⟨?_, rfl⟩
      rw [HD.out, ← HZ.out, ← HS.out]
      congr 2


set_option maxRecDepth 100000 in
set_option maxHeartbeats 2000000 in
theorem RefInt_any (n : Int) (h1 : -9223372036854775808 < n) (h2 : n < 9223372036854775808) (w : World) :
    Calls Tryd.prog 7 #[.int .i64 n] w fun e w' => e = .returned (.string ⟨(Lib.itoa n).toArray⟩) ∧ w' = w := by
  by_cases h : n < 0
  · obtain ⟨m, hm⟩ : ∃ m : Nat, n = -(m : Int) := ⟨n.natAbs, by omega⟩
    subst hm
    have hI := Lib.hid (itoa_neg (n := m) (by omega))
    obtain ⟨S, hS⟩ : ∃ S : ByteArray, ⟨(Lib.decDigits m).toArray⟩ = S := ⟨_, rfl⟩
    have hSs : S.size ≤ 19 := by
      rw [← hS]
      exact dec_len 18 m (by omega)
    have hd := RefDigits_any m (by omega) w
    rw [hS] at hd
    have HD := Lib.hid hd
    have HS := Lib.hid hS
    have b1 : (-(m : Int) == -9223372036854775808) = false := by rw [beq_eq_false_iff_ne]; omega
    have b2 : -(m : Int) < 0 := h
    have b3 : IntKind.i64.wrap (- -(m : Int)) = (m : Int) := by rw [IntKind.wrap_i64]; omega
    have b4 : wrap64 (- -(m : Int)) = (m : Int) := by unfold wrap64; omega
    have b5 : IntKind.i64.wrap (m : Int) = (m : Int) := by rw [IntKind.wrap_i64]; omega
    have b6 : wrap64 (m : Int) = (m : Int) := by unfold wrap64; omega
    clear hS hd h
    go_enter Tryd.func7, Tryd.ntmps7
    go_wp2_with fail
    refine HD.out.mono ?_
    rintro e w' ⟨rfl, hw⟩
    obtain rfl := hw.symm
    go_wp2_with fail
    go_ret
    exact ⟨by rw [hI.out, ← HS.out]; congr 2, rfl⟩
  · obtain ⟨m, hm⟩ : ∃ m : Nat, n = (m : Int) := ⟨n.toNat, by omega⟩
    subst hm
    have hI := Lib.hid (itoa_nat m)
    obtain ⟨S, hS⟩ : ∃ S : ByteArray, ⟨(Lib.decDigits m).toArray⟩ = S := ⟨_, rfl⟩
    have hd := RefDigits_any m (by omega) w
    rw [hS] at hd
    have HD := Lib.hid hd
    have HS := Lib.hid hS
    have b1 : ((m : Int) == -9223372036854775808) = false := by rw [beq_eq_false_iff_ne]; omega
    clear hS hd
    go_enter Tryd.func7, Tryd.ntmps7
    go_wp2_with fail
    refine HD.out.mono ?_
    rintro e w' ⟨rfl, hw⟩
    obtain rfl := hw.symm
    go_wp2_with fail
    go_ret
    exact ⟨by rw [hI.out, ← HS.out]; rfl, rfl⟩



set_option maxRecDepth 100000 in
set_option maxHeartbeats 1000000 in
theorem value_any (s : ByteArray) (w : World) (hs : s.size ≤ 9) (hd : ∀ c ∈ s.data.toList, isDig c = true) :
    Calls Tryd.prog 24 #[.string s] w fun e w' => e = .returned (.float .f64 (fl (dval s.data.toList))) ∧ w' = w := by
  have HDG := Lib.hid hd
  clear hd
  go_enter Tryd.func24, Tryd.ntmps24
  go_wp2_with fail
  go_loop [3, 7] (fun a b => ∃ k : Nat, k ≤ s.size ∧ b = .int .i64 k ∧ a = .float .f64 (fl (dval (s.data.toList.take k)))) (fun _ b => s.size - (intOf b).toNat)
  case atStart => exact ⟨0, by omega, rfl, by rw [List.take_zero]; simp [dval, fl_zero]⟩
  case round =>
    obtain ⟨k, hk, rfl, rfl⟩ := hrel
    have hlen : (s.data.toList.take k).length = k := by simp; omega
    have hdv := dval_lt (s.data.toList.take k) (fun c hc => HDG.out c (List.mem_of_mem_take hc))
    rw [hlen] at hdv
    by_cases hlt : k < s.size
    · have hp : 10 ^ k ≤ 10 ^ 8 := Nat.pow_le_pow_right (by omega) (by omega)
      have hltI : (k : Int) < (s.size : Int) := by omega
      have hgb := gb_eq s k hlt
      have hdig := HDG.out (gb s k) (by
        unfold gb
        rw [List.getD_eq_getElem?_getD, List.getElem?_eq_getElem (by simpa using hlt)]
        exact List.getElem_mem _)
      have hsn : s.data.toList.take (k + 1) = s.data.toList.take k ++ [gb s k] := by
        unfold gb
        rw [List.take_succ_eq_append_getElem (by simpa using hlt), List.getD_eq_getElem?_getD, List.getElem?_eq_getElem (by simpa using hlt)]; rfl
      have HN : Hid (dval (s.data.toList.take (k + 1)) = dval (s.data.toList.take k) * 10 + ((gb s k).toNat - 48)) := by unfold Hid; rw [hsn, dval_snoc]
      unfold isDig at hdig
      simp only [decide_eq_true_eq] at hdig
      generalize gb s k = c at *
      generalize dval (s.data.toList.take k) = t at *
      have ht : t < 100000000 := Nat.lt_of_lt_of_le hdv hp
      have hm := run_mul (fl t) (fl 10) _ (mul_fl (by omega) (by omega) (by omega))
      have hd := run_add (fl (t * 10)) (fl (c.toNat - 48)) _ (add_fl (by omega) (by omega) (by omega))
      rw [fl_ten] at hm
      have hcv := floatOfInt_nat (c.toNat - 48)
      have hw : IntKind.u8.wrap ((c.toNat : Int) - 48) = ((c.toNat - 48 : Nat) : Int) := by unfold IntKind.wrap; simp [IntKind.bits, IntKind.signed]; omega
      clear hsn hdv hp hlen ht hdig
      generalize c.toNat - 48 = d at *
      go_wp2_with fail
      go_round
      case rel => exact ⟨k + 1, by omega, by go_num, by rw [HN.out]⟩
      case measure => simp [intOf]; omega
    · have hge : ¬ ((k : Int) < (s.size : Int)) := by omega
      have HT : Hid (dval (s.data.toList.take k) = dval s.data.toList) := by unfold Hid; rw [List.take_of_length_le (by simp; omega)]
      rw [HT.out]
      clear hdv hlen
      go_wp2_with fail
      go_ret
      exact ⟨rfl, rfl⟩
end Go.Proofs.YtgmoggpnfabjfaaDoor