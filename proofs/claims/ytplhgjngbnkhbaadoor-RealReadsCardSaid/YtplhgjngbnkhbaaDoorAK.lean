import Derived.Test.YtplhgjngbnkhbaaDoorAH
import Derived.Test.YtplhgjngbnkhbaaDoorM
namespace Go.Proofs.YtplhgjngbnkhbaaDoor
open Go.RowKit Ieee
set_option linter.unusedVariables false

theorem hv_no {c : UInt8} (h : ¬ hv c < 16) : c.toNat < 48 ∨ (57 < c.toNat ∧ c.toNat < 97) ∨ 102 < c.toNat := by
  unfold hv at h
  split at h
  · omega
  · split at h
    · omega
    · omega
theorem hv_cases2 {c : UInt8} (h : hv c < 16) : (48 ≤ c.toNat ∧ c.toNat ≤ 57 ∧ c.toNat - 48 = hv c) ∨ (97 ≤ c.toNat ∧ c.toNat ≤ 102 ∧ c.toNat - 87 = hv c) := by
  rcases hv_cases h with ⟨a, b, e⟩ | ⟨a, b, e⟩
  · exact .inl ⟨a, b, e.symm⟩
  · exact .inr ⟨a, b, e.symm⟩
set_option maxRecDepth 100000 in
set_option maxHeartbeats 1000000 in
theorem hex_yes (c : UInt8) (h : hv c < 16) (w : World) : Calls Tryd.prog 31 #[.int .u8 c.toNat] w fun e w' => e = .returned (.int .i64 (hv c)) ∧ w' = w := by
  obtain ⟨d, hd⟩ : ∃ d, hv c = d := ⟨_, rfl⟩
  rw [hd]
  rcases hv_cases2 h with ⟨a, b, e⟩ | ⟨a, b, e⟩
  · rw [hd] at e
    have H : Hid ((c.toNat : Int) - 48 = (d : Int)) := by unfold Hid; omega
    have a' : (48 : Int) ≤ (c.toNat : Int) := by omega
    have b' : (c.toNat : Int) ≤ 57 := by omega
    clear h hd a b e
    go_enter Tryd.func31, Tryd.ntmps31
    go_wp2_with fail
    go_ret
    exact ⟨by rw [H.out]; rfl, rfl⟩
  · rw [hd] at e
    have H : Hid ((c.toNat : Int) - 97 + 10 = (d : Int)) := by unfold Hid; omega
    have a0 : (48 : Int) ≤ (c.toNat : Int) := by omega
    have b0 : (57 : Int) < (c.toNat : Int) := by omega
    have b1 : decide ((c.toNat : Int) ≤ 57) = false := by simp; omega
    have a' : (97 : Int) ≤ (c.toNat : Int) := by omega
    have b' : (c.toNat : Int) ≤ 102 := by omega
    clear h hd a b e
    go_enter Tryd.func31, Tryd.ntmps31
    go_wp2_with fail
    go_ret
    exact ⟨by rw [H.out]; rfl, rfl⟩
set_option maxRecDepth 100000 in
set_option maxHeartbeats 1000000 in
theorem hex_no (c : UInt8) (h : ¬ hv c < 16) (w : World) : Calls Tryd.prog 31 #[.int .u8 c.toNat] w fun e w' => e = .returned (.int .i64 (-1)) ∧ w' = w := by
  rcases hv_no h with a | ⟨a, b⟩ | a
  · have d1 : decide ((48 : Int) ≤ (c.toNat : Int)) = false := by simp; omega
    have d2 : decide ((97 : Int) ≤ (c.toNat : Int)) = false := by simp; omega
    have e1 : (c.toNat : Int) < 48 := by omega
    clear h a
    go_enter Tryd.func31, Tryd.ntmps31
    go_wp2_with fail
    go_ret
    exact ⟨rfl, rfl⟩
  · have d1 : decide ((c.toNat : Int) ≤ 57) = false := by simp; omega
    have d2 : decide ((97 : Int) ≤ (c.toNat : Int)) = false := by simp; omega
    have e1 : (48 : Int) ≤ (c.toNat : Int) := by omega
    have e2 : (c.toNat : Int) < 97 := by omega
    have e3 : (57 : Int) < (c.toNat : Int) := by omega
    clear h a b
    go_enter Tryd.func31, Tryd.ntmps31
    go_wp2_with fail
    go_ret
    exact ⟨rfl, rfl⟩
  · have d1 : decide ((c.toNat : Int) ≤ 57) = false := by simp; omega
    have d2 : decide ((c.toNat : Int) ≤ 102) = false := by simp; omega
    have e1 : (48 : Int) ≤ (c.toNat : Int) := by omega
    have e2 : (97 : Int) ≤ (c.toNat : Int) := by omega
    have e3 : (102 : Int) < (c.toNat : Int) := by omega
    clear h a
    go_enter Tryd.func31, Tryd.ntmps31
    go_wp2_with fail
    go_ret
    exact ⟨rfl, rfl⟩
set_option maxRecDepth 100000 in
set_option maxHeartbeats 1000000 in
theorem Begins_one (s : ByteArray) (c : UInt8) (w : World) :
    Calls Tryd.prog 24 #[.string s, .string ⟨#[c]⟩] w fun e w' => e = .returned (.bool (hp s ⟨#[c]⟩)) ∧ w' = w := by
  by_cases h1 : 1 ≤ s.size
  · have b1 : (1 : Int) ≤ (s.size : Int) := by omega
    have HV : Hid (((s.extract 0 1).toList == [c]) = hp s ⟨#[c]⟩) := by
      rw [Hid, hp, show (⟨#[c]⟩ : ByteArray).size = 1 from rfl, decide_eq_true h1, Bool.true_and, Lib.toList_data ⟨#[c]⟩]
    clear h1
    go_enter Tryd.func24, Tryd.ntmps24
    go_wp2_with fail
    go_ret
    exact ⟨by rw [← HV.out]; rfl, rfl⟩
  · have b1 : ¬ (1 : Int) ≤ (s.size : Int) := by omega
    have HV : Hid (hp s ⟨#[c]⟩ = false) := by
      rw [Hid, hp, show (⟨#[c]⟩ : ByteArray).size = 1 from rfl, decide_eq_false h1, Bool.false_and]
    clear h1
    go_enter Tryd.func24, Tryd.ntmps24
    go_wp2_with fail
    go_ret
    exact ⟨by rw [HV.out]; rfl, rfl⟩
/-- One digit more. -/
theorem shl_or {n d : Nat} (hn : n < 1152921504606846976) (hd : d < 16) : bits .or .u64 (IntKind.u64.wrap ((n : Int) * 16)) (d : Int) = ((n * 16 + d : Nat) : Int) := by
  have e : IntKind.u64.wrap ((n : Int) * 16) = ((n * 16 : Nat) : Int) := by rw [IntKind.wrap_u64]; omega
  rw [e, u64_or_nat _ _ (by omega) (by omega)]
  congr 1
  have := Nat.two_pow_add_eq_or_of_lt (i := 4) (b := d) (by omega) n
  rw [Nat.mul_comm n 16]
  exact this.symm
theorem or_sign {x : Nat} (h : x < 9223372036854775808) : bits .or .u64 (x : Int) 9223372036854775808 = ((9223372036854775808 + x : Nat) : Int) := by
  have := u64_or_nat x 9223372036854775808 (by omega) (by omega)
  rw [show ((9223372036854775808 : Nat) : Int) = 9223372036854775808 from rfl] at this
  rw [this]
  congr 1
  have h2 := Nat.two_pow_add_eq_or_of_lt (i := 63) (b := x) (by omega) 1
  rw [Nat.or_comm]
  simpa using h2.symm
theorem or_none {x : Nat} (h : x < 9223372036854775808) : bits .or .u64 (x : Int) 0 = (x : Int) := by
  have := u64_or_nat x 0 (by omega) (by omega)
  rw [Nat.or_zero] at this
  exact this
end Go.Proofs.YtplhgjngbnkhbaaDoor
