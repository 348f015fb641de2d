import Derived.Test.YtafbheplaheohaaK
namespace Go.Proofs.Ytafbheplaheohaa
open Go.RowKit
set_option linter.unusedVariables false

theorem quotT_false (q c : UInt8) (r : Bz) : quotT q false (c :: r) = if c = q then 1 else if c = 92 ∧ q = 34 then quotT q true r + 1 else quotT q false r + 1 := rfl
/-- From here on a quotation goes on. -/
def QuotAt (q : UInt8) (s : ByteArray) (k : Nat) : Prop := quotT q false (s.data.toList.drop 1) + 1 = k + quotT q false (s.data.toList.drop k)
set_option maxRecDepth 100000 in
set_option maxHeartbeats 4000000 in
theorem quotation_any (s : ByteArray) (hs : s.size ≤ 1000000) (h1 : 0 < s.size) (q : UInt8) (hq : s[0]'h1 = q) (w : World) :
    Calls Try.prog 77 #[.string s] w fun e w' => e = .returned (.int .i64 ((quotT q false (s.data.toList.drop 1) : Int) + 1)) ∧ Below w.heap.size w w' := by
  obtain ⟨r, hr⟩ : ∃ r : Nat, quotT q false (s.data.toList.drop 1) + 1 = r := ⟨_, rfl⟩
  have hrI : (quotT q false (s.data.toList.drop 1) : Int) + 1 = (r : Int) := by omega
  rw [hrI]
  have HR := Lib.hid hr
  have h1I : (0 : Int) < (s.size : Int) := by omega
  have h34 := byte_eq q 34
  rw [show ((34 : UInt8).toNat : Int) = 34 from rfl] at h34
  obtain ⟨z4, hz4⟩ : ∃ z, (q == 34) = z := ⟨_, rfl⟩
  have HZ4 := Lib.hid hz4
  rw [hz4] at h34
  clear hr hrI hz4
  go_enter Try.func77, Try.ntmps77
  go_wp2_with fail
  go_loopw [3] (fun n wx => ∃ k : Nat, n = .int .i64 k ∧ 1 ≤ k ∧ k ≤ s.size + 1 ∧ Below w.heap.size w wx ∧ Hid ((k ≤ s.size → QuotAt q s k) ∧ (s.size < k → s.size + 1 = r))) (fun n _ => s.size + 2 - (intOf n).toNat)
  case atStart => exact ⟨1, rfl, Nat.le_refl _, by omega, Below.refl _ _, fun _ => by unfold QuotAt; omega, fun h => by omega⟩
  case round =>
    obtain ⟨k, rfl, hk1, hk2, hbel, HK⟩ := hrel
    have HBEL := Lib.hid hbel
    clear hbel
    have hk0 : (0 : Int) ≤ (k : Int) := by omega
    have hsw : IntKind.i64.wrap ((s.size : Int) + 1) = (s.size : Int) + 1 := IntWalk.i64_in _ (by omega)
    by_cases hlt : k < s.size
    · have hltI : (k : Int) < (s.size : Int) := by omega
      have hltd : decide ((k : Int) < (s.size : Int)) = true := decide_eq_true hltI
      have hat := data_get s k hlt
      obtain ⟨c, hc⟩ : ∃ c, s[k]'hlt = c := ⟨_, rfl⟩
      rw [hc] at hat
      have hdr := at_drop hat
      have HAT : Hid (r = k + (if c = q then 1 else if c = 92 ∧ q = 34 then quotT q true (s.data.toList.drop (k + 1)) + 1 else quotT q false (s.data.toList.drop (k + 1)) + 1)) := by
        have := HK.out.1 (by omega)
        unfold QuotAt at this
        rw [hdr, quotT_false, HR.out] at this
        exact this
      have hb64 : IntKind.i64.wrap ((k : Int) + 1) = (k : Int) + 1 := IntWalk.i64_in _ (by omega)
      have hb65 : IntKind.i64.wrap ((k : Int) + 1 + 1) = (k : Int) + 1 + 1 := IntWalk.i64_in _ (by omega)
      have hcq := byte_eq c q
      have h92 := byte_eq c 92
      rw [show ((92 : UInt8).toNat : Int) = 92 from rfl] at h92
      obtain ⟨z1, hz1⟩ : ∃ z, (c == q) = z := ⟨_, rfl⟩
      obtain ⟨z2, hz2⟩ : ∃ z, (c == 92) = z := ⟨_, rfl⟩
      rw [hz1] at hcq
      rw [hz2] at h92
      have HZ1 := Lib.hid hz1
      have HZ2 := Lib.hid hz2
      clear hat hdr hz1 hz2
      have hqa : ∀ j, r = j + quotT q false (s.data.toList.drop j) → QuotAt q s j := fun j h => by unfold QuotAt; rw [HR.out]; exact h
      have HQA := Lib.hid hqa
      clear hqa
      cases z1 with
      | true =>
        have HE : Hid (r = k + 1) := by
          have : c = q := by simpa using HZ1.out
          rw [Hid, HAT.out, if_pos this]
        go_wp2_with fail
        go_quiet (fail)
        go_wp2_with fail
        go_ret
        refine ⟨?_, HBEL.out.trans ((drew_below _ _).mono HBEL.out.size)⟩
        rw [HE.out]; rfl
      | false =>
        have hcn : ¬ c = q := by simpa using HZ1.out
        have HRR : Hid (r = k + (if c = 92 ∧ q = 34 then quotT q true (s.data.toList.drop (k + 1)) + 1 else quotT q false (s.data.toList.drop (k + 1)) + 1)) := by rw [Hid, HAT.out, if_neg hcn]
        clear hcn
        have H2 : Hid ((c = 92 ∧ q = 34) ↔ (z2 && z4) = true) := by
          rw [Hid, ← HZ2.out, ← HZ4.out]; simp
        cases z2 <;> cases z4
        all_goals
          go_wp2_with fail
          go_quiet (fail)
          go_wp2_with fail
          go_roundw
          case measure => simp [intOf]; omega
          case rel =>
            first
              | (refine ⟨k + 1, by go_num, by omega, by omega, HBEL.out.trans ((drew_below _ _).mono HBEL.out.size), fun _ => HQA.out _ ?_, fun h => by omega⟩
                 have h := HRR.out
                 rw [if_neg (fun e => by have := H2.out.1 e; simp at this)] at h
                 omega)
              | (refine ⟨k + 2, by go_num, by omega, by omega, HBEL.out.trans ((drew_below _ _).mono HBEL.out.size), fun h => HQA.out _ ?_, fun h => ?_⟩
                 · have h2 := HRR.out
                   rw [if_pos (H2.out.2 rfl), List.drop_eq_getElem_cons (by rw [dl]; omega)] at h2
                   have e : ∀ x (l : Bz), quotT q true (x :: l) = quotT q false l + 1 := fun _ _ => rfl
                   rw [e, show k + 1 + 1 = k + 2 from rfl] at h2
                   omega
                 · have h2 := HRR.out
                   rw [if_pos (H2.out.2 rfl), List.drop_of_length_le (by rw [dl]; omega)] at h2
                   have e : quotT q true [] = 1 := rfl
                   rw [e] at h2
                   omega)
    · have hltd : decide ((k : Int) < (s.size : Int)) = false := decide_eq_false (by omega)
      have HE : Hid (s.size + 1 = r) := by
        by_cases hks : k = s.size
        · have := HK.out.1 (by omega)
          unfold QuotAt at this
          rw [hks, List.drop_of_length_le (i := s.size) (by rw [dl]; exact Nat.le_refl _), HR.out] at this
          rw [Hid, this]; rfl
        · exact HK.out.2 (by omega)
      go_wp2_with fail
      go_ret
      refine ⟨?_, HBEL.out⟩
      rw [← HE.out]; rfl
end Go.Proofs.Ytafbheplaheohaa
