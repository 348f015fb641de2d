import Derived.Test.YthgddbdkdloobaaDoorC
namespace Go.Proofs.YthgddbdkdloobaaDoor
open Go.RowKit
set_option linter.unusedVariables false

theorem dval_snoc (l : Bs) (c : UInt8) : dval (l ++ [c]) = dval l * 10 + (c.toNat - 48) := by simp [dval]
/-- One digit more, modulo 2^64. -/
theorem num_u64 {n c : Nat} (h1 : 48 ≤ c) (h2 : c ≤ 57) : ∃ p q d : Nat, IntKind.u8.wrap ((c : Int) - 48) = (d : Int) ∧ IntKind.u64.wrap (((n % 18446744073709551616 : Nat) : Int) * 10) = (p : Int) ∧ IntKind.u64.wrap ((p : Int) + (d : Int)) = (q : Int) ∧ IntKind.u64.wrap (d : Int) = (d : Int) ∧ q = (n * 10 + (c - 48)) % 18446744073709551616 := by
  refine ⟨n % 18446744073709551616 * 10 % 18446744073709551616, (n * 10 + (c - 48)) % 18446744073709551616, c - 48, ?_, ?_, ?_, ?_, rfl⟩
  · rw [IntKind.wrap_u8]; omega
  · rw [IntKind.wrap_u64]; omega
  · rw [IntKind.wrap_u64]; omega
  · rw [IntKind.wrap_u64]; omega
theorem num_end (n : Nat) : IntKind.i64.wrap ((n % 18446744073709551616 : Nat) : Int) = wr (n : Int) := by
  unfold wr wrap64; rw [IntKind.wrap_i64]; omega
theorem num_end' (n : Nat) : wrap64 ((n % 18446744073709551616 : Nat) : Int) = wr (n : Int) := by
  unfold wr wrap64; omega
/-- One digit more, in whole numbers that go round. -/
theorem num_i64 {n c : Nat} (h1 : 48 ≤ c) (h2 : c ≤ 57) : wrap64 (wrap64 (wrap64 (wr (n : Int) * 10) + (c : Int)) - 48) = wr ((n * 10 + (c - 48) : Nat) : Int) := by
  unfold wr wrap64; omega
theorem dig_b {c : UInt8} (h : isDig c = true) : 48 ≤ c.toNat ∧ c.toNat ≤ 57 := by
  unfold isDig at h; simpa using h
set_option maxRecDepth 100000 in
set_option maxHeartbeats 1000000 in
theorem number_any (s : ByteArray) (w : World) (hs : s.size ≤ 9223372036854775807) (hd : ∀ c ∈ s.data.toList, isDig c = true) : Calls Tryd.prog 48 #[.string s] w fun e w' => e = .returned (.int .i64 (num s.data.toList)) ∧ w' = w := by
  have hl := dlen s
  obtain ⟨R, hR⟩ : ∃ R, num s.data.toList = R := ⟨_, rfl⟩
  rw [hR]
  have HR := Lib.hid hR
  have HL := Lib.hid hl
  have HD := Lib.hid hd
  clear hR hl hd
  go_enter Tryd.func48, Tryd.ntmps48
  go_wp2_with fail
  go_loop [3, 7] (fun n i => ∃ k : Nat, k ≤ s.size ∧ i = .int .i64 k ∧ n = .int .u64 (dval (s.data.toList.take k) % 18446744073709551616 : Nat)) (fun _ i => s.size - (intOf i).toNat)
  case atStart => exact ⟨0, by omega, rfl, rfl⟩
  case round =>
    obtain ⟨k, hk, rfl, rfl⟩ := hrel
    by_cases hlt : k < s.size
    · have hltI : (k : Int) < (s.size : Int) := by omega
      have hgb := gb_eq s k hlt
      have ht := take_gb hlt
      have hm : gb s k ∈ s.data.toList := List.mem_of_getElem? (gb_at hlt)
      have hdg := dig_b (HD.out _ hm)
      have hn := dval_snoc (s.data.toList.take k) (gb s k)
      rw [← ht] at hn
      obtain ⟨c, hc⟩ : ∃ c, gb s k = c := ⟨_, rfl⟩
      rw [hc] at hgb hdg hn
      obtain ⟨n, hnn⟩ : ∃ n, dval (s.data.toList.take k) = n := ⟨_, rfl⟩
      rw [hnn] at hn ⊢
      obtain ⟨p, q, d, p1, p2, p3, p5, p4⟩ := num_u64 (n := n) hdg.1 hdg.2
      rw [← hn] at p4
      have HN := Lib.hid p4
      obtain ⟨m, hmm⟩ : ∃ m, n % 18446744073709551616 = m := ⟨_, rfl⟩
      rw [hmm] at p2 ⊢
      clear ht hm hc hn hnn p4 hdg hmm
      go_wp2_with fail
      exact ⟨⟨k + 1, by omega, by go_num, by rw [HN.out]⟩, by simp [intOf]; omega⟩
    · have hltI : ¬ (k : Int) < (s.size : Int) := by omega
      have ht : s.data.toList.take k = s.data.toList := List.take_of_length_le (by rw [HL.out]; omega)
      rw [ht]
      have e1 := num_end (dval s.data.toList)
      have e2 := num_end' (dval s.data.toList)
      have HE : Hid (wr (dval s.data.toList : Int) = R) := HR.out
      obtain ⟨m, hmm⟩ : ∃ m, dval s.data.toList % 18446744073709551616 = m := ⟨_, rfl⟩
      rw [hmm] at e1 e2 ⊢
      rw [HE.out] at e1 e2
      clear ht hmm
      go_wp2_with fail
      go_ret
      exact ⟨rfl, rfl⟩
set_option maxRecDepth 100000 in
set_option maxHeartbeats 1000000 in
theorem Refnumber_any (s : ByteArray) (w : World) (hs : s.size ≤ 9223372036854775807) (hd : ∀ c ∈ s.data.toList, isDig c = true) : Calls Tryd.prog 54 #[.string s] w fun e w' => e = .returned (.int .i64 (num s.data.toList)) ∧ w' = w := by
  have hl := dlen s
  obtain ⟨R, hR⟩ : ∃ R, num s.data.toList = R := ⟨_, rfl⟩
  rw [hR]
  have HR := Lib.hid hR
  have HL := Lib.hid hl
  have HD := Lib.hid hd
  clear hR hl hd
  go_enter Tryd.func54, Tryd.ntmps54
  go_wp2_with fail
  go_loop [3, 4] (fun n i => ∃ k : Nat, k ≤ s.size ∧ i = .int .i64 k ∧ n = .int .i64 (num (s.data.toList.take k))) (fun _ i => s.size - (intOf i).toNat)
  case atStart => exact ⟨0, by omega, rfl, by simp [num, dval, wr, wrap64]⟩
  case round =>
    obtain ⟨k, hk, rfl, rfl⟩ := hrel
    by_cases hlt : k < s.size
    · have hltI : (k : Int) < (s.size : Int) := by omega
      have hgb := gb_eq s k hlt
      have ht := take_gb hlt
      have hm : gb s k ∈ s.data.toList := List.mem_of_getElem? (gb_at hlt)
      have hdg := dig_b (HD.out _ hm)
      have hn := dval_snoc (s.data.toList.take k) (gb s k)
      rw [← ht] at hn
      obtain ⟨c, hc⟩ : ∃ c, gb s k = c := ⟨_, rfl⟩
      rw [hc] at hgb hdg hn
      have e := num_i64 (n := dval (s.data.toList.take k)) hdg.1 hdg.2
      rw [← hn] at e
      change wrap64 (wrap64 (wrap64 (num (s.data.toList.take k) * 10) + (c.toNat : Int)) - 48) = num (s.data.toList.take (k + 1)) at e
      obtain ⟨n, hnn⟩ : ∃ n, num (s.data.toList.take k) = n := ⟨_, rfl⟩
      rw [hnn] at e ⊢
      have HN := Lib.hid e
      have hw : wrap64 (c.toNat : Int) = (c.toNat : Int) := by have := c.toNat_lt; unfold wrap64; omega
      clear ht hm hc hn hnn e hdg
      go_wp2_with fail
      exact ⟨⟨k + 1, by omega, by go_num, by rw [← HN.out]⟩, by simp [intOf]; omega⟩
    · have hltI : ¬ (k : Int) < (s.size : Int) := by omega
      have ht : s.data.toList.take k = s.data.toList := List.take_of_length_le (by rw [HL.out]; omega)
      rw [ht, HR.out]
      clear ht
      go_wp2_with fail
      go_ret
      exact ⟨rfl, rfl⟩
set_option maxRecDepth 100000 in
set_option maxHeartbeats 2000000 in
theorem RefNameLen_any (s : ByteArray) (p : Nat) (w : World) (hs : s.size ≤ 4611686018427387903) (hp : p ≤ s.size) : Calls Tryd.prog 24 #[.string s, .int .i64 p] w fun e w' => e = .returned (.int .i64 (nmL (s.data.toList.drop p) : Nat)) ∧ w' = w := by
  have hl := dlen s
  obtain ⟨R, hR⟩ : ∃ R, nmL (s.data.toList.drop p) = R := ⟨_, rfl⟩
  rw [hR]
  have HR := Lib.hid hR
  have HL := Lib.hid hl
  clear hR hl
  go_enter Tryd.func24, Tryd.ntmps24
  go_wp2_with fail
  go_loop [5] (fun n => ∃ k : Nat, p + k ≤ s.size ∧ n = .int .i64 k ∧ ∀ j c, j < k → (s.data.toList.drop p)[j]? = some c → nmB (decide (j = 0)) c = true) (fun n => s.size - (intOf n).toNat)
  case atStart => exact ⟨0, by omega, rfl, by intro j c hc; omega⟩
  case round =>
    obtain ⟨k, hk, rfl, hall⟩ := hrel
    have HALL := Lib.hid hall
    clear hall
    have hp0 : (0 : Int) ≤ (p : Int) + (k : Int) := by omega
    have hpm : (p : Int) + (k : Int) ≤ 4611686018427387903 := by omega
    by_cases hlt : p + k < s.size
    · have hltI : (p : Int) + (k : Int) < (s.size : Int) := by omega
      have hgb := gb_eq s (p + k) hlt
      have hat : (s.data.toList.drop p)[k]? = some (gb s (p + k)) := by rw [List.getElem?_drop]; exact gb_at hlt
      have HAT := Lib.hid hat
      obtain ⟨c, hc⟩ : ∃ c, gb s (p + k) = c := ⟨_, rfl⟩
      rw [hc] at hgb HAT
      have HD := Lib.hid (fun w => RefDigit_any c w)
      have HLt := Lib.hid (fun w => letter_any c w)
      obtain ⟨b, hb⟩ : ∃ b, isDig c = b := ⟨_, rfl⟩
      obtain ⟨b1, hb1⟩ : ∃ b, isLet c = b := ⟨_, rfl⟩
      rw [hb] at HD
      rw [hb1] at HLt
      obtain ⟨z, hz⟩ : ∃ z, decide (k = 0) = z := ⟨_, rfl⟩
      have hk0 : decide ((0 : Int) < (k : Int)) = !z := by rw [← hz]; by_cases h : k = 0 <;> simp [h]; omega
      have hk0' : decide (0 < k) = !z := by rw [← hz]; by_cases h : k = 0 <;> simp [h]; omega
      have HV : Hid (nmB (decide (k = 0)) c = (b1 || (!z && b))) := by rw [Hid, nmB, hb, hb1, hz]
      clear hb hb1 hc hz hat
      cases b1 <;> cases z <;> cases b
      all_goals
        go_wp2_with (first | (go_at_call 35; refine (HLt.out _).mono ?_; rintro e w' ⟨rfl, h⟩; obtain rfl := h.symm) | (go_at_call 36; refine (HD.out _).mono ?_; rintro e w' ⟨rfl, h⟩; obtain rfl := h.symm))
        first
          | (have HE : Hid (k = R) := by rw [Hid, ← HR.out]; exact (nm_at HALL.out (by rw [List.length_drop, HL.out]; omega) (.inr ⟨c, HAT.out, HV.out⟩)).symm
             go_ret
             exact ⟨by rw [← HE.out]; rfl, rfl⟩)
          | exact ⟨⟨k + 1, by omega, by go_num, nm_snoc HALL.out HAT.out HV.out⟩, by simp [intOf]; omega⟩
    · have hltI : ¬ (p : Int) + (k : Int) < (s.size : Int) := by omega
      have HE : Hid (k = R) := by rw [Hid, ← HR.out]; exact (nm_at HALL.out (by rw [List.length_drop, HL.out]; omega) (.inl (by rw [List.length_drop, HL.out]; omega))).symm
      go_wp2_with fail
      go_ret
      exact ⟨by rw [← HE.out]; rfl, rfl⟩
end Go.Proofs.YthgddbdkdloobaaDoor
