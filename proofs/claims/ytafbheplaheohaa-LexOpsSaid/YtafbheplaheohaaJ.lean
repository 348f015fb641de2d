import Derived.Test.YtafbheplaheohaaI
namespace Go.Proofs.Ytafbheplaheohaa
open Go.RowKit
set_option linter.unusedVariables false

def opFrom (ops : List Bz) : Nat → Bz → Bz
  | 0, _ => []
  | k + 1, s => if ops.contains (s.take (k + 1)) then s.take (k + 1) else opFrom ops k s
theorem operator_from (s : Bz) : operator s = opFrom ops3 (min s.length 3) s := by
  unfold operator
  match s with
  | [] => rfl
  | [a] => simp [opFrom] <;> (try (split <;> rfl))
  | [a, b] =>
    show (if ops3.contains [a, b] then [a, b] else if ops3.contains [a, b] then [a, b] else if ops3.contains [a] then [a] else []) = (if ops3.contains [a, b] then [a, b] else if ops3.contains [a] then [a] else [])
    by_cases h : ops3.contains [a, b] = true
    · rw [if_pos h, if_pos h]
    · rw [if_neg h, if_neg h]
  | a :: b :: c :: r =>
    have : min (a :: b :: c :: r).length 3 = 3 := by simp only [List.length_cons]; omega
    rw [this]; rfl
theorem opOf_from (s : Bz) : opOf s = opFrom ops2 (min s.length 2) s := by
  unfold opOf
  match s with
  | [] => rfl
  | [a] => simp [opFrom] <;> (try (split <;> rfl))
  | a :: b :: r =>
    have : min (a :: b :: r).length 2 = 2 := by simp only [List.length_cons]; omega
    rw [this]; rfl

set_option maxRecDepth 100000 in
set_option maxHeartbeats 4000000 in
theorem operator_any (s : ByteArray) (w : World) (hs : s.size ≤ 1000000) : Calls Try.prog 22 #[.string s] w fun e w' => (∃ t : ByteArray, t.data.toList = operator s.data.toList ∧ e = .returned (.string t)) ∧ w' = w := by
  obtain ⟨Q, hQ⟩ : ∃ Q : Ending → World → Prop, (fun e w' => (∃ t : ByteArray, t.data.toList = operator s.data.toList ∧ e = .returned (.string t)) ∧ w' = w) = Q := ⟨_, rfl⟩
  rw [hQ]
  have HQ := Lib.hid hQ
  obtain ⟨m, hm⟩ : ∃ m : Nat, min s.size 3 = m := ⟨_, rfl⟩
  have hmI : min (s.size : Int) 3 = (m : Int) := by omega
  have hm3 : m ≤ 3 := by omega
  have hms : m ≤ s.size := by omega
  have HM : Hid (operator s.data.toList = opFrom ops3 m s.data.toList) := by rw [Hid, ← hm, operator_from, dl]
  clear hQ hm
  go_enter Try.func22, Try.ntmps22
  go_wp2_with fail
  go_loopw [3] (fun n wx => ∃ k : Nat, n = .int .i64 k ∧ k ≤ m ∧ wx = w ∧ Hid (operator s.data.toList = opFrom ops3 k s.data.toList)) (fun n _ => (intOf n).toNat)
  case atStart => exact ⟨m, rfl, Nat.le_refl _, rfl, HM.out⟩
  case round =>
    obtain ⟨k, rfl, hk, rfl, HK⟩ := hrel
    cases k with
    | zero =>
      go_wp2_with fail
      rw [← HQ.out]
      exact ⟨⟨⟨#[]⟩, HK.out.symm, rfl⟩, rfl⟩
    | succ k =>
      have hd : decide ((0 : Int) < ((k + 1 : Nat) : Int)) = true := decide_eq_true (by omega)
      have hks : ((k + 1 : Nat) : Int) ≤ (s.size : Int) := by omega
      have hk0 : (0 : Int) ≤ ((k + 1 : Nat) : Int) := by omega
      have hx := ext_dt (t := s) (a := 0) (b := k + 1) (Nat.zero_le _) (by omega)
      rw [List.drop_zero] at hx
      have hb64 : IntKind.i64.wrap (((k + 1 : Nat) : Int) - 1) = (k : Int) := by rw [show ((k + 1 : Nat) : Int) - 1 = (k : Int) by omega]; exact IntWalk.i64_in _ (by omega)
      obtain ⟨kk, hkk⟩ : ∃ kk : Nat, k + 1 = kk := ⟨_, rfl⟩
      have HST : Hid (opFrom ops3 (k + 1) s.data.toList = if ops3.contains (s.data.toList.take (k + 1)) then s.data.toList.take (k + 1) else opFrom ops3 k s.data.toList) := rfl
      rw [hkk] at HST hx HK hd hks hk0 hb64 hk ⊢
      obtain ⟨X, hX⟩ : ∃ X, s.extract 0 kk = X := ⟨_, rfl⟩
      rw [hX] at hx
      have hkn : 0 < kk := by omega
      have HX := Lib.hid hx
      have HKK := Lib.hid hkk
      obtain ⟨b0, h0⟩ : ∃ b, (X.toList == [50, 62, 62]) = b := ⟨_, rfl⟩
      obtain ⟨b1, h1⟩ : ∃ b, (X.toList == [59, 59]) = b := ⟨_, rfl⟩
      obtain ⟨b2, h2⟩ : ∃ b, (X.toList == [38, 38]) = b := ⟨_, rfl⟩
      obtain ⟨b3, h3⟩ : ∃ b, (X.toList == [124, 124]) = b := ⟨_, rfl⟩
      obtain ⟨b4, h4⟩ : ∃ b, (X.toList == [62, 62]) = b := ⟨_, rfl⟩
      obtain ⟨b5, h5⟩ : ∃ b, (X.toList == [50, 62]) = b := ⟨_, rfl⟩
      obtain ⟨b6, h6⟩ : ∃ b, (X.toList == [59]) = b := ⟨_, rfl⟩
      obtain ⟨b7, h7⟩ : ∃ b, (X.toList == [124]) = b := ⟨_, rfl⟩
      obtain ⟨b8, h8⟩ : ∃ b, (X.toList == [40]) = b := ⟨_, rfl⟩
      obtain ⟨b9, h9⟩ : ∃ b, (X.toList == [41]) = b := ⟨_, rfl⟩
      obtain ⟨b10, h10⟩ : ∃ b, (X.toList == [60]) = b := ⟨_, rfl⟩
      obtain ⟨b11, h11⟩ : ∃ b, (X.toList == [62]) = b := ⟨_, rfl⟩
      obtain ⟨b12, h12⟩ : ∃ b, (X.toList == [10]) = b := ⟨_, rfl⟩
      have HC : Hid (ops3.contains (s.data.toList.take kk) = (b0 || (b1 || (b2 || (b3 || (b4 || (b5 || (b6 || (b7 || (b8 || (b9 || (b10 || (b11 || (b12 || false)))))))))))))) := by
        rw [Hid, ← hx.1, ← Lib.toList_data, ← h0, ← h1, ← h2, ← h3, ← h4, ← h5, ← h6, ← h7, ← h8, ← h9, ← h10, ← h11, ← h12]
        simp only [ops3, List.contains_cons, List.contains_nil]
      clear hx hkk
      cases b0 with
      | true =>
        go_wp2_with fail
        rw [← HQ.out]
        refine ⟨⟨X, ?_, rfl⟩, rfl⟩
        rw [HX.out.1, HK.out, HST.out, HC.out]
        rfl
      | false =>
       cases b1 with
       | true =>
         go_wp2_with fail
         rw [← HQ.out]
         refine ⟨⟨X, ?_, rfl⟩, rfl⟩
         rw [HX.out.1, HK.out, HST.out, HC.out]
         rfl
       | false =>
        cases b2 with
        | true =>
          go_wp2_with fail
          rw [← HQ.out]
          refine ⟨⟨X, ?_, rfl⟩, rfl⟩
          rw [HX.out.1, HK.out, HST.out, HC.out]
          rfl
        | false =>
         cases b3 with
         | true =>
           go_wp2_with fail
           rw [← HQ.out]
           refine ⟨⟨X, ?_, rfl⟩, rfl⟩
           rw [HX.out.1, HK.out, HST.out, HC.out]
           rfl
         | false =>
          cases b4 with
          | true =>
            go_wp2_with fail
            rw [← HQ.out]
            refine ⟨⟨X, ?_, rfl⟩, rfl⟩
            rw [HX.out.1, HK.out, HST.out, HC.out]
            rfl
          | false =>
           cases b5 with
           | true =>
             go_wp2_with fail
             rw [← HQ.out]
             refine ⟨⟨X, ?_, rfl⟩, rfl⟩
             rw [HX.out.1, HK.out, HST.out, HC.out]
             rfl
           | false =>
            cases b6 with
            | true =>
              go_wp2_with fail
              rw [← HQ.out]
              refine ⟨⟨X, ?_, rfl⟩, rfl⟩
              rw [HX.out.1, HK.out, HST.out, HC.out]
              rfl
            | false =>
             cases b7 with
             | true =>
               go_wp2_with fail
               rw [← HQ.out]
               refine ⟨⟨X, ?_, rfl⟩, rfl⟩
               rw [HX.out.1, HK.out, HST.out, HC.out]
               rfl
             | false =>
              cases b8 with
              | true =>
                go_wp2_with fail
                rw [← HQ.out]
                refine ⟨⟨X, ?_, rfl⟩, rfl⟩
                rw [HX.out.1, HK.out, HST.out, HC.out]
                rfl
              | false =>
               cases b9 with
               | true =>
                 go_wp2_with fail
                 rw [← HQ.out]
                 refine ⟨⟨X, ?_, rfl⟩, rfl⟩
                 rw [HX.out.1, HK.out, HST.out, HC.out]
                 rfl
               | false =>
                cases b10 with
                | true =>
                  go_wp2_with fail
                  rw [← HQ.out]
                  refine ⟨⟨X, ?_, rfl⟩, rfl⟩
                  rw [HX.out.1, HK.out, HST.out, HC.out]
                  rfl
                | false =>
                 cases b11 with
                 | true =>
                   go_wp2_with fail
                   rw [← HQ.out]
                   refine ⟨⟨X, ?_, rfl⟩, rfl⟩
                   rw [HX.out.1, HK.out, HST.out, HC.out]
                   rfl
                 | false =>
                  cases b12 with
                  | true =>
                    go_wp2_with fail
                    rw [← HQ.out]
                    refine ⟨⟨X, ?_, rfl⟩, rfl⟩
                    rw [HX.out.1, HK.out, HST.out, HC.out]
                    rfl
                  | false =>
                    have HN : Hid (operator s.data.toList = opFrom ops3 k s.data.toList) := by
                      rw [Hid, HK.out, HST.out, HC.out]; rfl
                    go_wp2_with fail
                    go_roundw
                    case measure => have := HKK.out; simp [intOf]; omega
                    case rel => exact ⟨k, rfl, by have := HKK.out; omega, trivial, HN.out⟩
set_option maxRecDepth 100000 in
set_option maxHeartbeats 4000000 in
theorem opOf_any (s : ByteArray) (w : World) (hs : s.size ≤ 1000000) : Calls Try.prog 75 #[.string s] w fun e w' => (∃ t : ByteArray, t.data.toList = opOf s.data.toList ∧ e = .returned (.string t)) ∧ w' = w := by
  obtain ⟨Q, hQ⟩ : ∃ Q : Ending → World → Prop, (fun e w' => (∃ t : ByteArray, t.data.toList = opOf s.data.toList ∧ e = .returned (.string t)) ∧ w' = w) = Q := ⟨_, rfl⟩
  rw [hQ]
  have HQ := Lib.hid hQ
  obtain ⟨m, hm⟩ : ∃ m : Nat, min s.size 2 = m := ⟨_, rfl⟩
  have hmI : min (s.size : Int) 2 = (m : Int) := by omega
  have hm3 : m ≤ 2 := by omega
  have hms : m ≤ s.size := by omega
  have HM : Hid (opOf s.data.toList = opFrom ops2 m s.data.toList) := by rw [Hid, ← hm, opOf_from, dl]
  clear hQ hm
  go_enter Try.func75, Try.ntmps75
  go_wp2_with fail
  go_loopw [3] (fun n wx => ∃ k : Nat, n = .int .i64 k ∧ k ≤ m ∧ wx = w ∧ Hid (opOf s.data.toList = opFrom ops2 k s.data.toList)) (fun n _ => (intOf n).toNat)
  case atStart => exact ⟨m, rfl, Nat.le_refl _, rfl, HM.out⟩
  case round =>
    obtain ⟨k, rfl, hk, rfl, HK⟩ := hrel
    cases k with
    | zero =>
      go_wp2_with fail
      rw [← HQ.out]
      exact ⟨⟨⟨#[]⟩, HK.out.symm, rfl⟩, rfl⟩
    | succ k =>
      have hd : decide ((0 : Int) < ((k + 1 : Nat) : Int)) = true := decide_eq_true (by omega)
      have hks : ((k + 1 : Nat) : Int) ≤ (s.size : Int) := by omega
      have hk0 : (0 : Int) ≤ ((k + 1 : Nat) : Int) := by omega
      have hx := ext_dt (t := s) (a := 0) (b := k + 1) (Nat.zero_le _) (by omega)
      rw [List.drop_zero] at hx
      have hb64 : IntKind.i64.wrap (((k + 1 : Nat) : Int) - 1) = (k : Int) := by rw [show ((k + 1 : Nat) : Int) - 1 = (k : Int) by omega]; exact IntWalk.i64_in _ (by omega)
      obtain ⟨kk, hkk⟩ : ∃ kk : Nat, k + 1 = kk := ⟨_, rfl⟩
      have HST : Hid (opFrom ops2 (k + 1) s.data.toList = if ops2.contains (s.data.toList.take (k + 1)) then s.data.toList.take (k + 1) else opFrom ops2 k s.data.toList) := rfl
      rw [hkk] at HST hx HK hd hks hk0 hb64 hk ⊢
      obtain ⟨X, hX⟩ : ∃ X, s.extract 0 kk = X := ⟨_, rfl⟩
      rw [hX] at hx
      have hkn : 0 < kk := by omega
      have HX := Lib.hid hx
      have HKK := Lib.hid hkk
      obtain ⟨b0, h0⟩ : ∃ b, (X.toList == [58, 45]) = b := ⟨_, rfl⟩
      obtain ⟨b1, h1⟩ : ∃ b, (X.toList == [58, 61]) = b := ⟨_, rfl⟩
      obtain ⟨b2, h2⟩ : ∃ b, (X.toList == [58, 63]) = b := ⟨_, rfl⟩
      obtain ⟨b3, h3⟩ : ∃ b, (X.toList == [58, 43]) = b := ⟨_, rfl⟩
      obtain ⟨b4, h4⟩ : ∃ b, (X.toList == [37, 37]) = b := ⟨_, rfl⟩
      obtain ⟨b5, h5⟩ : ∃ b, (X.toList == [35, 35]) = b := ⟨_, rfl⟩
      obtain ⟨b6, h6⟩ : ∃ b, (X.toList == [45]) = b := ⟨_, rfl⟩
      obtain ⟨b7, h7⟩ : ∃ b, (X.toList == [61]) = b := ⟨_, rfl⟩
      obtain ⟨b8, h8⟩ : ∃ b, (X.toList == [63]) = b := ⟨_, rfl⟩
      obtain ⟨b9, h9⟩ : ∃ b, (X.toList == [43]) = b := ⟨_, rfl⟩
      obtain ⟨b10, h10⟩ : ∃ b, (X.toList == [37]) = b := ⟨_, rfl⟩
      obtain ⟨b11, h11⟩ : ∃ b, (X.toList == [35]) = b := ⟨_, rfl⟩
      have HC : Hid (ops2.contains (s.data.toList.take kk) = (b0 || (b1 || (b2 || (b3 || (b4 || (b5 || (b6 || (b7 || (b8 || (b9 || (b10 || (b11 || false))))))))))))) := by
        rw [Hid, ← hx.1, ← Lib.toList_data, ← h0, ← h1, ← h2, ← h3, ← h4, ← h5, ← h6, ← h7, ← h8, ← h9, ← h10, ← h11]
        simp only [ops2, List.contains_cons, List.contains_nil]
      clear hx hkk
      cases b0 with
      | true =>
        go_wp2_with fail
        rw [← HQ.out]
        refine ⟨⟨X, ?_, rfl⟩, rfl⟩
        rw [HX.out.1, HK.out, HST.out, HC.out]
        rfl
      | false =>
       cases b1 with
       | true =>
         go_wp2_with fail
         rw [← HQ.out]
         refine ⟨⟨X, ?_, rfl⟩, rfl⟩
         rw [HX.out.1, HK.out, HST.out, HC.out]
         rfl
       | false =>
        cases b2 with
        | true =>
          go_wp2_with fail
          rw [← HQ.out]
          refine ⟨⟨X, ?_, rfl⟩, rfl⟩
          rw [HX.out.1, HK.out, HST.out, HC.out]
          rfl
        | false =>
         cases b3 with
         | true =>
           go_wp2_with fail
           rw [← HQ.out]
           refine ⟨⟨X, ?_, rfl⟩, rfl⟩
           rw [HX.out.1, HK.out, HST.out, HC.out]
           rfl
         | false =>
          cases b4 with
          | true =>
            go_wp2_with fail
            rw [← HQ.out]
            refine ⟨⟨X, ?_, rfl⟩, rfl⟩
            rw [HX.out.1, HK.out, HST.out, HC.out]
            rfl
          | false =>
           cases b5 with
           | true =>
             go_wp2_with fail
             rw [← HQ.out]
             refine ⟨⟨X, ?_, rfl⟩, rfl⟩
             rw [HX.out.1, HK.out, HST.out, HC.out]
             rfl
           | false =>
            cases b6 with
            | true =>
              go_wp2_with fail
              rw [← HQ.out]
              refine ⟨⟨X, ?_, rfl⟩, rfl⟩
              rw [HX.out.1, HK.out, HST.out, HC.out]
              rfl
            | false =>
             cases b7 with
             | true =>
               go_wp2_with fail
               rw [← HQ.out]
               refine ⟨⟨X, ?_, rfl⟩, rfl⟩
               rw [HX.out.1, HK.out, HST.out, HC.out]
               rfl
             | false =>
              cases b8 with
              | true =>
                go_wp2_with fail
                rw [← HQ.out]
                refine ⟨⟨X, ?_, rfl⟩, rfl⟩
                rw [HX.out.1, HK.out, HST.out, HC.out]
                rfl
              | false =>
               cases b9 with
               | true =>
                 go_wp2_with fail
                 rw [← HQ.out]
                 refine ⟨⟨X, ?_, rfl⟩, rfl⟩
                 rw [HX.out.1, HK.out, HST.out, HC.out]
                 rfl
               | false =>
                cases b10 with
                | true =>
                  go_wp2_with fail
                  rw [← HQ.out]
                  refine ⟨⟨X, ?_, rfl⟩, rfl⟩
                  rw [HX.out.1, HK.out, HST.out, HC.out]
                  rfl
                | false =>
                 cases b11 with
                 | true =>
                   go_wp2_with fail
                   rw [← HQ.out]
                   refine ⟨⟨X, ?_, rfl⟩, rfl⟩
                   rw [HX.out.1, HK.out, HST.out, HC.out]
                   rfl
                 | false =>
                   have HN : Hid (opOf s.data.toList = opFrom ops2 k s.data.toList) := by
                     rw [Hid, HK.out, HST.out, HC.out]; rfl
                   go_wp2_with fail
                   go_roundw
                   case measure => have := HKK.out; simp [intOf]; omega
                   case rel => exact ⟨k, rfl, by have := HKK.out; omega, trivial, HN.out⟩
end Go.Proofs.Ytafbheplaheohaa
