import Derived.Test.YtplhgjngbnkhbaaDoorI
import Derived.Test.YtplhgjngbnkhbaaDoorQ
import Derived.Test.YtplhgjngbnkhbaaDoorZ
namespace Go.Proofs.YtplhgjngbnkhbaaDoor
open Go.RowKit
set_option linter.unusedVariables false

theorem digit_slice : ∀ k : Fin 10, (⟨#[48, 49, 50, 51, 52, 53, 54, 55, 56, 57]⟩ : ByteArray).extract k.val (k.val + 1) = ⟨#[UInt8.ofNat (48 + k.val)]⟩ := by decide
theorem dec_small {n : Nat} (h : n < 10) : Lib.decDigits n = [UInt8.ofNat (48 + n)] := by rw [Lib.decDigits, dif_pos h]
theorem dec_big {n : Nat} (h : ¬ n < 10) : Lib.decDigits n = Lib.decDigits (n / 10) ++ [UInt8.ofNat (48 + n % 10)] := by rw [Lib.decDigits, dif_neg h]

theorem dec_len : ∀ (k n : Nat), n < 10 ^ (k + 1) → (Lib.decDigits n).length ≤ k + 1
  | k, n, h => by
    by_cases h9 : n < 10
    · rw [dec_small h9]; simp
    · rw [dec_big h9]
      cases k with
      | zero => simp at h; omega
      | succ k =>
        rw [Nat.pow_succ] at h
        have := dec_len k (n / 10) (by omega)
        simp; omega

set_option maxRecDepth 100000 in
set_option maxHeartbeats 2000000 in
theorem RefDigits_any (n : Nat) (hn : n < 9223372036854775808) (w : World) :
    Calls Tryd.prog 42 #[.int .i64 n] w fun e w' => e = .returned (.string ⟨(Lib.decDigits n).toArray⟩) ∧ w' = w := by
  induction n using Nat.strongRecOn generalizing w with
  | _ n ih =>
    obtain ⟨R, hR⟩ : ∃ R, Lib.decDigits n = R := ⟨_, rfl⟩
    rw [hR]
    obtain ⟨k, hk⟩ : ∃ k, n % 10 = k := ⟨_, rfl⟩
    have hk10 : k < 10 := by omega
    have hm : (n : Int) % 10 = (k : Int) := by omega
    have hm2 : (n : Int).tmod 10 = (k : Int) := by rw [Int.tmod_eq_emod_of_nonneg (by omega)]; omega
    have hsl := digit_slice ⟨k, hk10⟩
    simp only at hsl
    obtain ⟨z, hz⟩ : ∃ z : ByteArray, ⟨#[UInt8.ofNat (48 + k)]⟩ = z := ⟨_, rfl⟩
    rw [hz] at hsl
    have HZ := Lib.hid hz
    have HR := Lib.hid hR
    have q1 : (k : Int) ≤ 10 := by omega
    have q2 : (k : Int) + 1 ≤ 10 := by omega
    have q3 : (0 : Int) ≤ (k : Int) := by omega
    have w1 : IntKind.i64.wrap ((k : Int) + 1) = (k : Int) + 1 := by rw [IntKind.wrap_i64]; omega
    have w2 : wrap64 ((k : Int) + 1) = (k : Int) + 1 := by unfold wrap64; omega
    have HK := Lib.hid hk
    by_cases h9 : n < 10
    · have b1 : ¬ (9 : Int) < (n : Int) := by omega
      have HD : Hid (R = [UInt8.ofNat (48 + k)]) := by rw [Hid, ← hR, dec_small h9, show k = n by omega]
      clear hk hR hz ih
      go_enter Tryd.func42, Tryd.ntmps42
      go_wp2_with fail
      go_ret
      exact ⟨by rw [HD.out, ← HZ.out]; rfl, rfl⟩
    · have b1 : (9 : Int) < (n : Int) := by omega
      have HD : Hid (R = Lib.decDigits (n / 10) ++ [UInt8.ofNat (48 + k)]) := by rw [Hid, ← hR, dec_big h9, hk]
      obtain ⟨m, hmm⟩ : ∃ m, n / 10 = m := ⟨_, rfl⟩
      rw [hmm] at HD
      have hd2 : (n : Int).tdiv 10 = (m : Int) := by rw [Int.tdiv_eq_ediv_of_nonneg (by omega)]; omega
      have hd3 : (n : Int) / 10 = (m : Int) := by omega
      have hi := ih m (by omega) (by omega) w
      obtain ⟨S, hS⟩ : ∃ S : ByteArray, ⟨(Lib.decDigits m).toArray⟩ = S := ⟨_, rfl⟩
      have hSs : S.size ≤ 19 := by
        rw [← hS]
        exact dec_len 18 m (by omega)
      have hzs : z.size = 1 := by rw [← HZ.out]; rfl
      rw [hS] at hi
      have HS := Lib.hid hS
      have w3 : IntKind.i64.wrap (m : Int) = (m : Int) := by rw [IntKind.wrap_i64]; omega
      have w4 : wrap64 (m : Int) = (m : Int) := by unfold wrap64; omega
      have HI := Lib.hid hi
      clear hk hR hz ih hi hmm hS
      go_enter Tryd.func42, Tryd.ntmps42
      go_wp2_with fail
      refine HI.out.mono ?_
      rintro e w' ⟨rfl, hw⟩
      obtain rfl := hw.symm
      go_wp2_with fail
      go_ret
      refine ⟨?_, rfl⟩
      rw [HD.out, ← HZ.out, ← HS.out]
      congr 2

theorem itoa_neg {n : Nat} (h : 0 < n) : Lib.itoa (-(n : Int)) = 45 :: Lib.decDigits n := by
  unfold Lib.itoa
  rw [if_pos (by omega), Int.natAbs_neg, Int.natAbs_natCast]
theorem itoa_nat (n : Nat) : Lib.itoa (n : Int) = Lib.decDigits n := by
  unfold Lib.itoa
  rw [if_neg (by omega), Int.toNat_natCast]
set_option maxRecDepth 100000 in
set_option maxHeartbeats 2000000 in
theorem RefInt_any (n : Int) (h1 : -9223372036854775808 < n) (h2 : n < 9223372036854775808) (w : World) :
    Calls Tryd.prog 22 #[.int .i64 n] w fun e w' => e = .returned (.string ⟨(Lib.itoa n).toArray⟩) ∧ w' = w := by
  by_cases h : n < 0
  · obtain ⟨m, hm⟩ : ∃ m : Nat, n = -(m : Int) := ⟨n.natAbs, by omega⟩
    subst hm
    have hI := Lib.hid (itoa_neg (n := m) (by omega))
    obtain ⟨S, hS⟩ : ∃ S : ByteArray, ⟨(Lib.decDigits m).toArray⟩ = S := ⟨_, rfl⟩
    have hSs : S.size ≤ 19 := by
      rw [← hS]
      exact dec_len 18 m (by omega)
    have hd := RefDigits_any m (by omega) w
    rw [hS] at hd
    have HD := Lib.hid hd
    have HS := Lib.hid hS
    have b1 : (-(m : Int) == -9223372036854775808) = false := by rw [beq_eq_false_iff_ne]; omega
    have b2 : -(m : Int) < 0 := h
    have b3 : IntKind.i64.wrap (- -(m : Int)) = (m : Int) := by rw [IntKind.wrap_i64]; omega
    have b4 : wrap64 (- -(m : Int)) = (m : Int) := by unfold wrap64; omega
    have b5 : IntKind.i64.wrap (m : Int) = (m : Int) := by rw [IntKind.wrap_i64]; omega
    have b6 : wrap64 (m : Int) = (m : Int) := by unfold wrap64; omega
    clear hS hd h
    go_enter Tryd.func22, Tryd.ntmps22
    go_wp2_with fail
    refine HD.out.mono ?_
    rintro e w' ⟨rfl, hw⟩
    obtain rfl := hw.symm
    go_wp2_with fail
    go_ret
    exact ⟨by rw [hI.out, ← HS.out]; congr 2, rfl⟩
  · obtain ⟨m, hm⟩ : ∃ m : Nat, n = (m : Int) := ⟨n.toNat, by omega⟩
    subst hm
    have hI := Lib.hid (itoa_nat m)
    obtain ⟨S, hS⟩ : ∃ S : ByteArray, ⟨(Lib.decDigits m).toArray⟩ = S := ⟨_, rfl⟩
    have hd := RefDigits_any m (by omega) w
    rw [hS] at hd
    have HD := Lib.hid hd
    have HS := Lib.hid hS
    have b1 : ((m : Int) == -9223372036854775808) = false := by rw [beq_eq_false_iff_ne]; omega
    clear hS hd
    go_enter Tryd.func22, Tryd.ntmps22
    go_wp2_with fail
    refine HD.out.mono ?_
    rintro e w' ⟨rfl, hw⟩
    obtain rfl := hw.symm
    go_wp2_with fail
    go_ret
    exact ⟨by rw [hI.out, ← HS.out]; rfl, rfl⟩

theorem run_trunc (x : Nat) (h : rg x < 9218868437227405312) (w : World) : (callFunc 49 #[.float .f64 x]).run Tryd.prog w = .ok (.value (.float .f64 (wl (sg x) (tr x)))) w := by
  rw [run_callFunc_extern Tryd.func49 (by kernel_rfl) (by kernel_rfl) (by kernel_rfl) (e := Extern.MathFloor.toIntegral "math.archTrunc" .zero) (by kernel_rfl)]
  obtain ⟨m, a, hn⟩ := num_of h
  have hi := integral_num h
  have hr := hn.read
  have key : Extern.MathFloor.toIntegral "math.archTrunc" .zero #[.float .f64 x] = pure (.float .f64 (wl (sg x) (tr x))) := by
    delta Extern.MathFloor.toIntegral
    change (match FloatKind.f64.decode x with
      | .nan s t => _
      | d => pure (Value.float .f64 (FloatKind.f64.encode (d.integral .zero)))) = _
    rw [show FloatKind.f64.decode x = _ from hr]
    show pure (Value.float .f64 (D.write ((Ieee.Datum.number (sg x) m (-1074 + (a : Int))).integral .zero))) = _
    rw [← hr, hi]; rfl
  rw [key]; rfl
set_option maxRecDepth 100000 in
set_option maxHeartbeats 2000000 in
theorem Trunc_any (x : Nat) (h : rg x < 9218868437227405312) (w : World) : Calls Tryd.prog 38 #[.float .f64 x] w fun e w' => e = .returned (.float .f64 (wl (sg x) (tr x))) ∧ w' = w := by
  have hb := run_trunc x h
  clear h
  go_enter Tryd.func38, Tryd.ntmps38
  go_wp2_with fail
  go_ret
  exact ⟨rfl, rfl⟩
theorem sg_wrap {x : Nat} (hx : x < 18446744073709551616) : (IntKind.i64.wrap (x : Int) < 0) ↔ sg x = true := by
  rw [IntKind.wrap_i64]
  unfold sg
  rw [beq_iff_eq]
  omega
set_option maxRecDepth 100000 in
set_option maxHeartbeats 2000000 in
theorem Signbit_any (x : Nat) (hx : x < 18446744073709551616) (w : World) : Calls Tryd.prog 37 #[.float .f64 x] w fun e w' => e = .returned (.bool (sg x)) ∧ w' = w := by
  have hb := run_bits
  have HS := Lib.hid (sg_wrap hx)
  obtain ⟨q, hq⟩ : ∃ q, IntKind.i64.wrap (x : Int) = q := ⟨_, rfl⟩
  rw [hq] at HS
  cases h : sg x with
  | true =>
    have hneg : q < 0 := HS.out.2 h
    clear h hx
    go_enter Tryd.func37, Tryd.ntmps37
    go_wp2_with fail
    go_ret
    exact ⟨rfl, rfl⟩
  | false =>
    have hneg : ¬ q < 0 := fun e => by have := HS.out.1 e; rw [h] at this; cases this
    clear h hx
    go_enter Tryd.func37, Tryd.ntmps37
    go_wp2_with fail
    go_ret
    exact ⟨rfl, rfl⟩
end Go.Proofs.YtplhgjngbnkhbaaDoor
