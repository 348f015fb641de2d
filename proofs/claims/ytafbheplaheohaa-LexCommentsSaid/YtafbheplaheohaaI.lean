import Derived.Test.YtafbheplaheohaaF
namespace Go.Proofs.Ytafbheplaheohaa
open Go.RowKit
set_option linter.unusedVariables false

theorem cut_index (q : UInt8) : ∀ l : Bz, (cutAt q l = none ∧ Lib.indexByte l q = -1 ∧ l.contains q = false) ∨ ∃ t r, cutAt q l = some (t, r) ∧ Lib.indexByte l q = (t.length : Int) ∧ l = t ++ q :: r ∧ l.contains q = true
  | [] => .inl ⟨rfl, rfl, rfl⟩
  | c :: l => by
    by_cases e : c = q
    · subst e
      exact .inr ⟨[], l, by rw [cutAt, if_pos rfl], by rw [Lib.indexByte, if_pos (by simp)]; rfl, rfl, by simp⟩
    · rcases cut_index q l with ⟨h1, h2, h3⟩ | ⟨t, r, h1, h2, h3, h4⟩
      · refine .inl ⟨by rw [cutAt, if_neg e, h1]; rfl, by rw [Lib.indexByte, if_neg (by simpa using e), h2]; rfl, ?_⟩
        have hn : q ≠ c := fun x => e x.symm
        simp only [List.contains_cons, h3, Bool.or_false]
        simpa using hn
      · refine .inr ⟨c :: t, r, by rw [cutAt, if_neg e, h1]; rfl, ?_, by rw [h3]; rfl, by simp only [List.contains_cons, h4, Bool.or_true]⟩
        rw [Lib.indexByte, if_neg (by simpa using e), h2, if_neg (by simp), List.length_cons]; omega
/-- What Cut answers. -/
def cutA (q : UInt8) (s : ByteArray) : ByteArray × ByteArray × Bool := match cutAt q s.data.toList with
  | none => (s, ⟨#[]⟩, false)
  | some (t, r) => (⟨t.toArray⟩, ⟨r.toArray⟩, true)
def CutP (q : UInt8) (s : ByteArray) (w : World) (e : Ending) (w' : World) : Prop := e = .returned (.tuple #[.string (cutA q s).1, .string (cutA q s).2.1, .bool (cutA q s).2.2]) ∧ ∃ n, w' = w.drewN n
theorem drewN_zero (w : World) : w = w.drewN 0 := rfl
set_option maxRecDepth 100000 in
set_option maxHeartbeats 1000000 in
theorem cut_one (q : UInt8) (s : ByteArray) (w : World) (hs : s.size ≤ 1000000) : Calls Try.prog 44 #[.string s, .string ⟨#[q]⟩] w (CutP q s w) := by
  have HI := Lib.hid (fun w => Try.stringslite_Index_one s q w)
  obtain ⟨Q, hQ⟩ : ∃ Q, CutP q s w = Q := ⟨_, rfl⟩
  rw [hQ]
  have HQ := Lib.hid hQ
  obtain ⟨z, hz⟩ : ∃ z, Lib.indexByte s.data.toList q = z := ⟨_, rfl⟩
  rw [hz] at HI
  rcases cut_index q s.data.toList with ⟨h1, h2, _⟩ | ⟨t, r, h1, h2, h3, _⟩
  · rw [hz] at h2
    subst h2
    have H1 : Hid (cutA q s = (s, ⟨#[]⟩, false)) := by rw [Hid, cutA, h1]
    clear hQ hz h1
    go_enter Try.func44, Try.ntmps44
    go_wp2_with (go_at_call 57; refine (HI.out _).mono ?_; rintro e w1 ⟨rfl, h1⟩; obtain rfl := h1.symm; simp only [])
    rw [← HQ.out, CutP, H1.out]
    exact ⟨rfl, 0, drewN_zero _⟩
  · rw [hz] at h2
    subst h2
    have hlen : t.length + 1 + r.length = s.size := by rw [← dl, h3]; simp; omega
    obtain ⟨n, hn⟩ : ∃ n, t.length = n := ⟨_, rfl⟩
    have e1 := ext_dt (t := s) (a := 0) (b := n) (Nat.zero_le _) (by omega)
    have e2 := ext_end (t := s) (a := n + 1) (by omega)
    have hE1 : s.extract 0 n = ⟨t.toArray⟩ := ba_ext (by rw [e1.1, List.drop_zero, h3, ← hn, List.take_left])
    have hE2 : s.extract (n + 1) s.size = ⟨r.toArray⟩ := ba_ext (by rw [e2.1, h3, ← hn, ← List.drop_drop, List.drop_left]; rfl)
    have H1 : Hid (cutA q s = (s.extract 0 n, s.extract (n + 1) s.size, true)) := by rw [Hid, cutA, h1, hE1, hE2]
    rw [hn] at HI hlen
    have hd : decide ((0 : Int) ≤ (n : Int)) = true := decide_eq_true (by omega)
    have hw : IntKind.i64.wrap ((n : Int) + 1) = (n : Int) + 1 := IntWalk.i64_in _ (by omega)
    have hnI : (n : Int) ≤ (s.size : Int) := by omega
    have hnI2 : (n : Int) + 1 ≤ (s.size : Int) := by omega
    have hn0 : (0 : Int) ≤ (n : Int) := by omega
    have hn1 : (0 : Int) ≤ (n : Int) + 1 := by omega
    clear hQ hz h1 h3 e1 e2 hn hE1 hE2
    go_enter Try.func44, Try.ntmps44
    go_wp2_with (go_at_call 57; refine (HI.out _).mono ?_; rintro e w1 ⟨rfl, h1⟩; obtain rfl := h1.symm; simp only [])
    go_quiet (fail)
    go_wp2_with fail
    rw [← HQ.out, CutP, H1.out]
    exact ⟨rfl, nq, rfl⟩
set_option maxRecDepth 100000 in
set_option maxHeartbeats 1000000 in
theorem Cut_one (q : UInt8) (s : ByteArray) (w : World) (hs : s.size ≤ 1000000) : Calls Try.prog 32 #[.string s, .string ⟨#[q]⟩] w (CutP q s w) := by
  have HC := Lib.hid (cut_one q s w hs)
  obtain ⟨Q, hQ⟩ : ∃ Q, CutP q s w = Q := ⟨_, rfl⟩
  rw [hQ] at HC ⊢
  have HQ := Lib.hid hQ
  clear hQ
  go_enter Try.func32, Try.ntmps32
  go_wp2_with (go_at_call 44; refine HC.out.mono ?_; intro e w1 hq; rw [← HQ.out] at hq; obtain ⟨rfl, h2⟩ := hq; have H2 := Lib.hid h2; clear h2; simp only [])
  rw [← HQ.out]
  exact ⟨rfl, H2.out⟩
set_option maxRecDepth 100000 in
set_option maxHeartbeats 1000000 in
theorem Index_none (s : ByteArray) (w : World) : Calls Try.prog 57 #[.string s, .string ⟨#[]⟩] w fun e w' => e = .returned (.int .i64 0) ∧ w' = w := by
  go_enter Try.func57, Try.ntmps57
  go_wp2_with fail
  go_ret
  exact ⟨rfl, rfl⟩
set_option maxRecDepth 100000 in
set_option maxHeartbeats 1000000 in
theorem Contains_none (s : ByteArray) (w : World) : Calls Try.prog 29 #[.string s, .string ⟨#[]⟩] w fun e w' => e = .returned (.bool true) ∧ w' = w := by
  have HI := Lib.hid (fun w => Index_none s w)
  have HX : Hid (∀ w, Calls Try.prog 42 #[.string s, .string ⟨#[]⟩] w fun e w' => e = .returned (.int .i64 0) ∧ w' = w) := by
    intro w
    go_enter Try.func42, Try.ntmps42
    go_wp2_with (go_at_call 57; refine (HI.out _).mono ?_; rintro e w1 ⟨rfl, h1⟩; obtain rfl := h1.symm; simp only [])
    go_ret
    exact ⟨rfl, rfl⟩
  go_enter Try.func29, Try.ntmps29
  go_wp2_with (go_at_call 42; refine (HX.out _).mono ?_; rintro e w1 ⟨rfl, h1⟩; obtain rfl := h1.symm; simp only [])
  go_ret
  exact ⟨rfl, rfl⟩
theorem contains_idx (q : UInt8) (l : Bz) : decide (0 ≤ Lib.indexByte l q) = l.contains q := by
  rcases cut_index q l with ⟨_, h2, h3⟩ | ⟨t, r, _, h2, _, h3⟩
  · rw [h2, h3]; rfl
  · rw [h2, h3]; simp
set_option maxRecDepth 100000 in
set_option maxHeartbeats 1000000 in
theorem readable_any (s : ByteArray) (w : World) (hs : s.size ≤ 9000000000000000000) : Calls Try.prog 19 #[.string s] w fun e w' => e = .returned (.int .i64 (mayN s.data.toList)) ∧ w' = w := by
  have HC := Lib.hid (fun w => Try.strings_Contains_one s 0 w)
  rw [contains_idx] at HC
  obtain ⟨r, hr⟩ : ∃ r, mayN s.data.toList = r := ⟨_, rfl⟩
  obtain ⟨z, hz⟩ : ∃ z, s.data.toList.contains 0 = z := ⟨_, rfl⟩
  rw [hz] at HC
  have HR : Hid (r = if 16384 < s.size then 3 else if z = true then 2 else 0) := by rw [Hid, ← hr, ← hz, mayN, dl]
  rw [hr]
  have hsI : (s.size : Int) ≤ 9000000000000000000 := by omega
  clear hr hz
  by_cases hl : 16384 < s.size
  · have hd : decide ((16384 : Int) < (s.size : Int)) = true := decide_eq_true (by omega)
    have H : Hid (r = 3) := by rw [Hid, HR.out, if_pos hl]
    clear hl
    go_enter Try.func19, Try.ntmps19
    go_wp2_with fail
    go_ret
    rw [H.out]
    exact ⟨rfl, rfl⟩
  · have hd : decide ((16384 : Int) < (s.size : Int)) = false := decide_eq_false (by omega)
    have H : Hid (r = if z = true then 2 else 0) := by rw [Hid, HR.out, if_neg hl]
    clear hl
    cases z
    all_goals
      go_enter Try.func19, Try.ntmps19
      go_wp2_with (go_at_call 29; refine (HC.out _).mono ?_; rintro e w1 ⟨rfl, h1⟩; obtain rfl := h1.symm; simp only [])
      go_ret
      rw [H.out]
      exact ⟨rfl, rfl⟩
set_option maxRecDepth 100000 in
set_option maxHeartbeats 1000000 in
theorem separates_any (c : UInt8) (w : World) : Calls Try.prog 58 #[.int .u8 c.toNat] w fun e w' => e = .returned (.bool (separates c)) ∧ w' = w := by
  have HS := Lib.hid (fun w => Space_any c w)
  have HI := Lib.hid (fun w => Try.strings_IndexByte ⟨#[59, 38, 124, 40, 41, 60, 62]⟩ c.toNat w)
  have hc : ((c.toNat : Int).toNat).toUInt8 = c := by simp
  rw [hc] at HI
  have hx := contains_idx c [59, 38, 124, 40, 41, 60, 62]
  obtain ⟨r, hr⟩ : ∃ r, separates c = r := ⟨_, rfl⟩
  obtain ⟨x, hx1⟩ : ∃ x, isSpace c = x := ⟨_, rfl⟩
  obtain ⟨y, hy1⟩ : ∃ y, [59, 38, 124, 40, 41, 60, 62].contains c = y := ⟨_, rfl⟩
  have HR : Hid (r = (x || y)) := by rw [Hid, ← hr, ← hx1, ← hy1]; rfl
  rw [hx1] at HS
  rw [hy1] at hx
  obtain ⟨z, hz⟩ : ∃ z, Lib.indexByte [59, 38, 124, 40, 41, 60, 62] c = z := ⟨_, rfl⟩
  have HI2 : Hid (∀ w, Calls Try.prog 73 #[.string ⟨#[59, 38, 124, 40, 41, 60, 62]⟩, .int .u8 c.toNat] w fun e w' => e = .returned (.int .i64 z) ∧ w' = w) := by rw [Hid, ← hz]; exact HI.out
  rw [hz] at hx
  rw [hr]
  clear hr hx1 hy1 hz HI hc
  cases x <;> cases y
  all_goals
    go_enter Try.func58, Try.ntmps58
    go_wp2_with (first
      | (go_at_call 72; refine (HS.out _).mono ?_; rintro e w1 ⟨rfl, h1⟩; obtain rfl := h1.symm; simp only [])
      | (go_at_call 73; refine (HI2.out _).mono ?_; rintro e w1 ⟨rfl, h1⟩; obtain rfl := h1.symm; simp only []))
    go_ret
    rw [HR.out]
    exact ⟨rfl, rfl⟩
set_option maxRecDepth 100000 in
set_option maxHeartbeats 1000000 in
theorem ends_any (e : Nat) (c : UInt8) (w : World) (he : e ≤ 3) : Calls Try.prog 45 #[.int .i64 e, .int .u8 c.toNat] w fun x w' => x = .returned (.bool (endsB e c)) ∧ w' = w := by
  have HS := Lib.hid (fun w => separates_any c w)
  have h1 := byte_eq c 125
  have h2 := byte_eq c 34
  rw [show ((125 : UInt8).toNat : Int) = 125 from rfl] at h1
  rw [show ((34 : UInt8).toNat : Int) = 34 from rfl] at h2
  obtain ⟨x, hx⟩ : ∃ x, (c == 125) = x := ⟨_, rfl⟩
  obtain ⟨y, hy⟩ : ∃ y, (c == 34) = y := ⟨_, rfl⟩
  obtain ⟨z, hz⟩ : ∃ z, separates c = z := ⟨_, rfl⟩
  obtain ⟨r, hr⟩ : ∃ r, endsB e c = r := ⟨_, rfl⟩
  have HR : Hid (r = if e = 1 then z else if e = 2 then x else if e = 3 then y else false) := by rw [Hid, ← hr, ← hx, ← hy, ← hz]; rfl
  rw [hx] at h1
  rw [hy] at h2
  rw [hz] at HS
  rw [hr]
  clear hr hx hy hz
  have h4 : e = 0 ∨ e = 1 ∨ e = 2 ∨ e = 3 := by omega
  rcases h4 with rfl | rfl | rfl | rfl
  all_goals
    go_enter Try.func45, Try.ntmps45
    go_wp2_with (go_at_call 58; refine (HS.out _).mono ?_; rintro e w1 ⟨rfl, h1⟩; obtain rfl := h1.symm; simp only [])
    go_ret
    rw [HR.out]
    exact ⟨rfl, rfl⟩
end Go.Proofs.Ytafbheplaheohaa

namespace Go.Proofs.Ytafbheplaheohaa
open Go.RowKit
set_option linter.unusedVariables false

def opFrom (ops : List Bz) : Nat → Bz → Bz
  | 0, _ => []
  | k + 1, s => if ops.contains (s.take (k + 1)) then s.take (k + 1) else opFrom ops k s
theorem operator_from (s : Bz) : operator s = opFrom ops3 (min s.length 3) s := by
  unfold operator
  match s with
  | [] => rfl
  | [a] => simp [opFrom] <;> (try (split <;> rfl))
  | [a, b] =>
    show (if ops3.contains [a, b] then [a, b] else if ops3.contains [a, b] then [a, b] else if ops3.contains [a] then [a] else []) = (if ops3.contains [a, b] then [a, b] else if ops3.contains [a] then [a] else [])
    by_cases h : ops3.contains [a, b] = true
    · rw [if_pos h, if_pos h]
    · rw [if_neg h, if_neg h]
  | a :: b :: c :: r =>
    have : min (a :: b :: c :: r).length 3 = 3 := by simp only [List.length_cons]; omega
    rw [this]; rfl
theorem opOf_from (s : Bz) : opOf s = opFrom ops2 (min s.length 2) s := by
  unfold opOf
  match s with
  | [] => rfl
  | [a] => simp [opFrom] <;> (try (split <;> rfl))
  | a :: b :: r =>
    have : min (a :: b :: r).length 2 = 2 := by simp only [List.length_cons]; omega
    rw [this]; rfl

set_option maxRecDepth 100000 in
set_option maxHeartbeats 4000000 in
theorem operator_any (s : ByteArray) (w : World) (hs : s.size ≤ 1000000) : Calls Try.prog 22 #[.string s] w fun e w' => (∃ t : ByteArray, t.data.toList = operator s.data.toList ∧ e = .returned (.string t)) ∧ w' = w := by
  obtain ⟨Q, hQ⟩ : ∃ Q : Ending → World → Prop, (fun e w' => (∃ t : ByteArray, t.data.toList = operator s.data.toList ∧ e = .returned (.string t)) ∧ w' = w) = Q := ⟨_, rfl⟩
  rw [hQ]
  have HQ := Lib.hid hQ
  obtain ⟨m, hm⟩ : ∃ m : Nat, min s.size 3 = m := ⟨_, rfl⟩
  have hmI : min (s.size : Int) 3 = (m : Int) := by omega
  have hm3 : m ≤ 3 := by omega
  have hms : m ≤ s.size := by omega
  have HM : Hid (operator s.data.toList = opFrom ops3 m s.data.toList) := by rw [Hid, ← hm, operator_from, dl]
  clear hQ hm
  go_enter Try.func22, Try.ntmps22
  go_wp2_with fail
  go_loopw [3] (fun n wx => ∃ k : Nat, n = .int .i64 k ∧ k ≤ m ∧ wx = w ∧ Hid (operator s.data.toList = opFrom ops3 k s.data.toList)) (fun n _ => (intOf n).toNat)
  case atStart => exact ⟨m, rfl, Nat.le_refl _, rfl, HM.out⟩
  case round =>
    obtain ⟨k, rfl, hk, rfl, HK⟩ := hrel
    cases k with
    | zero =>
      go_wp2_with fail
      rw [← HQ.out]
      exact ⟨⟨⟨#[]⟩, HK.out.symm, rfl⟩, rfl⟩
    | succ k =>
      have hd : decide ((0 : Int) < ((k + 1 : Nat) : Int)) = true := decide_eq_true (by omega)
      have hks : ((k + 1 : Nat) : Int) ≤ (s.size : Int) := by omega
      have hk0 : (0 : Int) ≤ ((k + 1 : Nat) : Int) := by omega
      have hx := ext_dt (t := s) (a := 0) (b := k + 1) (Nat.zero_le _) (by omega)
      rw [List.drop_zero] at hx
      have hb64 : IntKind.i64.wrap (((k + 1 : Nat) : Int) - 1) = (k : Int) := by rw [show ((k + 1 : Nat) : Int) - 1 = (k : Int) by omega]; exact IntWalk.i64_in _ (by omega)
      obtain ⟨kk, hkk⟩ : ∃ kk : Nat, k + 1 = kk := ⟨_, rfl⟩
      have HST : Hid (opFrom ops3 (k + 1) s.data.toList = if ops3.contains (s.data.toList.take (k + 1)) then s.data.toList.take (k + 1) else opFrom ops3 k s.data.toList) := rfl
      rw [hkk] at HST hx HK hd hks hk0 hb64 hk ⊢
      obtain ⟨X, hX⟩ : ∃ X, s.extract 0 kk = X := ⟨_, rfl⟩
      rw [hX] at hx
      have hkn : 0 < kk := by omega
      have HX := Lib.hid hx
      have HKK := Lib.hid hkk
      obtain ⟨b0, h0⟩ : ∃ b, (X.toList == [50, 62, 62]) = b := ⟨_, rfl⟩
      obtain ⟨b1, h1⟩ : ∃ b, (X.toList == [59, 59]) = b := ⟨_, rfl⟩
      obtain ⟨b2, h2⟩ : ∃ b, (X.toList == [38, 38]) = b := ⟨_, rfl⟩
      obtain ⟨b3, h3⟩ : ∃ b, (X.toList == [124, 124]) = b := ⟨_, rfl⟩
      obtain ⟨b4, h4⟩ : ∃ b, (X.toList == [62, 62]) = b := ⟨_, rfl⟩
      obtain ⟨b5, h5⟩ : ∃ b, (X.toList == [50, 62]) = b := ⟨_, rfl⟩
      obtain ⟨b6, h6⟩ : ∃ b, (X.toList == [59]) = b := ⟨_, rfl⟩
      obtain ⟨b7, h7⟩ : ∃ b, (X.toList == [124]) = b := ⟨_, rfl⟩
      obtain ⟨b8, h8⟩ : ∃ b, (X.toList == [40]) = b := ⟨_, rfl⟩
      obtain ⟨b9, h9⟩ : ∃ b, (X.toList == [41]) = b := ⟨_, rfl⟩
      obtain ⟨b10, h10⟩ : ∃ b, (X.toList == [60]) = b := ⟨_, rfl⟩
      obtain ⟨b11, h11⟩ : ∃ b, (X.toList == [62]) = b := ⟨_, rfl⟩
      obtain ⟨b12, h12⟩ : ∃ b, (X.toList == [10]) = b := ⟨_, rfl⟩
      have HC : Hid (ops3.contains (s.data.toList.take kk) = (b0 || (b1 || (b2 || (b3 || (b4 || (b5 || (b6 || (b7 || (b8 || (b9 || (b10 || (b11 || (b12 || false)))))))))))))) := by
        rw [Hid, ← hx.1, ← Lib.toList_data, ← h0, ← h1, ← h2, ← h3, ← h4, ← h5, ← h6, ← h7, ← h8, ← h9, ← h10, ← h11, ← h12]
        simp only [ops3, List.contains_cons, List.contains_nil]
      clear hx hkk
      cases b0 with
      | true =>
        go_wp2_with fail
        rw [← HQ.out]
        refine ⟨⟨X, ?_, rfl⟩, rfl⟩
        rw [HX.out.1, HK.out, HST.out, HC.out]
        rfl
      | false =>
       cases b1 with
       | true =>
         go_wp2_with fail
         rw [← HQ.out]
         refine ⟨⟨X, ?_, rfl⟩, rfl⟩
         rw [HX.out.1, HK.out, HST.out, HC.out]
         rfl
       | false =>
        cases b2 with
        | true =>
          go_wp2_with fail
          rw [← HQ.out]
          refine ⟨⟨X, ?_, rfl⟩, rfl⟩
          rw [HX.out.1, HK.out, HST.out, HC.out]
          rfl
        | false =>
         cases b3 with
         | true =>
           go_wp2_with fail
           rw [← HQ.out]
           refine ⟨⟨X, ?_, rfl⟩, rfl⟩
           rw [HX.out.1, HK.out, HST.out, HC.out]
           rfl
         | false =>
          cases b4 with
          | true =>
            go_wp2_with fail
            rw [← HQ.out]
            refine ⟨⟨X, ?_, rfl⟩, rfl⟩
            rw [HX.out.1, HK.out, HST.out, HC.out]
            rfl
          | false =>
           cases b5 with
           | true =>
             go_wp2_with fail
             rw [← HQ.out]
             refine ⟨⟨X, ?_, rfl⟩, rfl⟩
             rw [HX.out.1, HK.out, HST.out, HC.out]
             rfl
           | false =>
            cases b6 with
            | true =>
              go_wp2_with fail
              rw [← HQ.out]
              refine ⟨⟨X, ?_, rfl⟩, rfl⟩
              rw [HX.out.1, HK.out, HST.out, HC.out]
              rfl
            | false =>
             cases b7 with
             | true =>
               go_wp2_with fail
               rw [← HQ.out]
               refine ⟨⟨X, ?_, rfl⟩, rfl⟩
               rw [HX.out.1, HK.out, HST.out, HC.out]
               rfl
             | false =>
              cases b8 with
              | true =>
                go_wp2_with fail
                rw [← HQ.out]
                refine ⟨⟨X, ?_, rfl⟩, rfl⟩
                rw [HX.out.1, HK.out, HST.out, HC.out]
                rfl
              | false =>
               cases b9 with
               | true =>
                 go_wp2_with fail
                 rw [← HQ.out]
                 refine ⟨⟨X, ?_, rfl⟩, rfl⟩
                 rw [HX.out.1, HK.out, HST.out, HC.out]
                 rfl
               | false =>
                cases b10 with
                | true =>
                  go_wp2_with fail
                  rw [← HQ.out]
                  refine ⟨⟨X, ?_, rfl⟩, rfl⟩
                  rw [HX.out.1, HK.out, HST.out, HC.out]
                  rfl
                | false =>
                 cases b11 with
                 | true =>
                   go_wp2_with fail
                   rw [← HQ.out]
                   refine ⟨⟨X, ?_, rfl⟩, rfl⟩
                   rw [HX.out.1, HK.out, HST.out, HC.out]
                   rfl
                 | false =>
                  cases b12 with
                  | true =>
                    go_wp2_with fail
                    rw [← HQ.out]
                    refine ⟨⟨X, ?_, rfl⟩, rfl⟩
                    rw [HX.out.1, HK.out, HST.out, HC.out]
                    rfl
                  | false =>
                    have HN : Hid (operator s.data.toList = opFrom ops3 k s.data.toList) := by
                      rw [Hid, HK.out, HST.out, HC.out]; rfl
                    go_wp2_with fail
                    go_roundw
                    case measure => have := HKK.out; simp [intOf]; omega
                    case rel => exact ⟨k, rfl, by have := HKK.out; omega, trivial, HN.out⟩
set_option maxRecDepth 100000 in
set_option maxHeartbeats 4000000 in
theorem opOf_any (s : ByteArray) (w : World) (hs : s.size ≤ 1000000) : Calls Try.prog 75 #[.string s] w fun e w' => (∃ t : ByteArray, t.data.toList = opOf s.data.toList ∧ e = .returned (.string t)) ∧ w' = w := by
  obtain ⟨Q, hQ⟩ : ∃ Q : Ending → World → Prop, (fun e w' => (∃ t : ByteArray, t.data.toList = opOf s.data.toList ∧ e = .returned (.string t)) ∧ w' = w) = Q := ⟨_, rfl⟩
  rw [hQ]
  have HQ := Lib.hid hQ
  obtain ⟨m, hm⟩ : ∃ m : Nat, min s.size 2 = m := ⟨_, rfl⟩
  have hmI : min (s.size : Int) 2 = (m : Int) := by omega
  have hm3 : m ≤ 2 := by omega
  have hms : m ≤ s.size := by omega
  have HM : Hid (opOf s.data.toList = opFrom ops2 m s.data.toList) := by rw [Hid, ← hm, opOf_from, dl]
  clear hQ hm
  go_enter Try.func75, Try.ntmps75
  go_wp2_with fail
  go_loopw [3] (fun n wx => ∃ k : Nat, n = .int .i64 k ∧ k ≤ m ∧ wx = w ∧ Hid (opOf s.data.toList = opFrom ops2 k s.data.toList)) (fun n _ => (intOf n).toNat)
  case atStart => exact ⟨m, rfl, Nat.le_refl _, rfl, HM.out⟩
  case round =>
    obtain ⟨k, rfl, hk, rfl, HK⟩ := hrel
    cases k with
    | zero =>
      go_wp2_with fail
      rw [← HQ.out]
      exact ⟨⟨⟨#[]⟩, HK.out.symm, rfl⟩, rfl⟩
    | succ k =>
      have hd : decide ((0 : Int) < ((k + 1 : Nat) : Int)) = true := decide_eq_true (by omega)
      have hks : ((k + 1 : Nat) : Int) ≤ (s.size : Int) := by omega
      have hk0 : (0 : Int) ≤ ((k + 1 : Nat) : Int) := by omega
      have hx := ext_dt (t := s) (a := 0) (b := k + 1) (Nat.zero_le _) (by omega)
      rw [List.drop_zero] at hx
      have hb64 : IntKind.i64.wrap (((k + 1 : Nat) : Int) - 1) = (k : Int) := by rw [show ((k + 1 : Nat) : Int) - 1 = (k : Int) by omega]; exact IntWalk.i64_in _ (by omega)
      obtain ⟨kk, hkk⟩ : ∃ kk : Nat, k + 1 = kk := ⟨_, rfl⟩
      have HST : Hid (opFrom ops2 (k + 1) s.data.toList = if ops2.contains (s.data.toList.take (k + 1)) then s.data.toList.take (k + 1) else opFrom ops2 k s.data.toList) := rfl
      rw [hkk] at HST hx HK hd hks hk0 hb64 hk ⊢
      obtain ⟨X, hX⟩ : ∃ X, s.extract 0 kk = X := ⟨_, rfl⟩
      rw [hX] at hx
      have hkn : 0 < kk := by omega
      have HX := Lib.hid hx
      have HKK := Lib.hid hkk
      obtain ⟨b0, h0⟩ : ∃ b, (X.toList == [58, 45]) = b := ⟨_, rfl⟩
      obtain ⟨b1, h1⟩ : ∃ b, (X.toList == [58, 61]) = b := ⟨_, rfl⟩
      obtain ⟨b2, h2⟩ : ∃ b, (X.toList == [58, 63]) = b := ⟨_, rfl⟩
      obtain ⟨b3, h3⟩ : ∃ b, (X.toList == [58, 43]) = b := ⟨_, rfl⟩
      obtain ⟨b4, h4⟩ : ∃ b, (X.toList == [37, 37]) = b := ⟨_, rfl⟩
      obtain ⟨b5, h5⟩ : ∃ b, (X.toList == [35, 35]) = b := ⟨_, rfl⟩
      obtain ⟨b6, h6⟩ : ∃ b, (X.toList == [45]) = b := ⟨_, rfl⟩
      obtain ⟨b7, h7⟩ : ∃ b, (X.toList == [61]) = b := ⟨_, rfl⟩
      obtain ⟨b8, h8⟩ : ∃ b, (X.toList == [63]) = b := ⟨_, rfl⟩
      obtain ⟨b9, h9⟩ : ∃ b, (X.toList == [43]) = b := ⟨_, rfl⟩
      obtain ⟨b10, h10⟩ : ∃ b, (X.toList == [37]) = b := ⟨_, rfl⟩
      obtain ⟨b11, h11⟩ : ∃ b, (X.toList == [35]) = b := ⟨_, rfl⟩
      have HC : Hid (ops2.contains (s.data.toList.take kk) = (b0 || (b1 || (b2 || (b3 || (b4 || (b5 || (b6 || (b7 || (b8 || (b9 || (b10 || (b11 || false))))))))))))) := by
        rw [Hid, ← hx.1, ← Lib.toList_data, ← h0, ← h1, ← h2, ← h3, ← h4, ← h5, ← h6, ← h7, ← h8, ← h9, ← h10, ← h11]
        simp only [ops2, List.contains_cons, List.contains_nil]
      clear hx hkk
      cases b0 with
      | true =>
        go_wp2_with fail
        rw [← HQ.out]
        refine ⟨⟨X, ?_, rfl⟩, rfl⟩
        rw [HX.out.1, HK.out, HST.out, HC.out]
        rfl
      | false =>
       cases b1 with
       | true =>
         go_wp2_with fail
         rw [← HQ.out]
         refine ⟨⟨X, ?_, rfl⟩, rfl⟩
         rw [HX.out.1, HK.out, HST.out, HC.out]
         rfl
       | false =>
        cases b2 with
        | true =>
          go_wp2_with fail
          rw [← HQ.out]
          refine ⟨⟨X, ?_, rfl⟩, rfl⟩
          rw [HX.out.1, HK.out, HST.out, HC.out]
          rfl
        | false =>
         cases b3 with
         | true =>
           go_wp2_with fail
           rw [← HQ.out]
           refine ⟨⟨X, ?_, rfl⟩, rfl⟩
           rw [HX.out.1, HK.out, HST.out, HC.out]
           rfl
         | false =>
          cases b4 with
          | true =>
            go_wp2_with fail
            rw [← HQ.out]
            refine ⟨⟨X, ?_, rfl⟩, rfl⟩
            rw [HX.out.1, HK.out, HST.out, HC.out]
            rfl
          | false =>
           cases b5 with
           | true =>
             go_wp2_with fail
             rw [← HQ.out]
             refine ⟨⟨X, ?_, rfl⟩, rfl⟩
             rw [HX.out.1, HK.out, HST.out, HC.out]
             rfl
           | false =>
            cases b6 with
            | true =>
              go_wp2_with fail
              rw [← HQ.out]
              refine ⟨⟨X, ?_, rfl⟩, rfl⟩
              rw [HX.out.1, HK.out, HST.out, HC.out]
              rfl
            | false =>
             cases b7 with
             | true =>
               go_wp2_with fail
               rw [← HQ.out]
               refine ⟨⟨X, ?_, rfl⟩, rfl⟩
               rw [HX.out.1, HK.out, HST.out, HC.out]
               rfl
             | false =>
              cases b8 with
              | true =>
                go_wp2_with fail
                rw [← HQ.out]
                refine ⟨⟨X, ?_, rfl⟩, rfl⟩
                rw [HX.out.1, HK.out, HST.out, HC.out]
                rfl
              | false =>
               cases b9 with
               | true =>
                 go_wp2_with fail
                 rw [← HQ.out]
                 refine ⟨⟨X, ?_, rfl⟩, rfl⟩
                 rw [HX.out.1, HK.out, HST.out, HC.out]
                 rfl
               | false =>
                cases b10 with
                | true =>
                  go_wp2_with fail
                  rw [← HQ.out]
                  refine ⟨⟨X, ?_, rfl⟩, rfl⟩
                  rw [HX.out.1, HK.out, HST.out, HC.out]
                  rfl
                | false =>
                 cases b11 with
                 | true =>
                   go_wp2_with fail
                   rw [← HQ.out]
                   refine ⟨⟨X, ?_, rfl⟩, rfl⟩
                   rw [HX.out.1, HK.out, HST.out, HC.out]
                   rfl
                 | false =>
                   have HN : Hid (opOf s.data.toList = opFrom ops2 k s.data.toList) := by
                     rw [Hid, HK.out, HST.out, HC.out]; rfl
                   go_wp2_with fail
                   go_roundw
                   case measure => have := HKK.out; simp [intOf]; omega
                   case rel => exact ⟨k, rfl, by have := HKK.out; omega, trivial, HN.out⟩
end Go.Proofs.Ytafbheplaheohaa

namespace Go.Proofs.Ytafbheplaheohaa
open Go.RowKit
set_option linter.unusedVariables false

/-- A byte that goes on a name of so many bytes. -/
def goesOn (k : Nat) (c : UInt8) : Bool := isLetter c || c == 95 || (decide (0 < k) && isDigit c)
def NmAt (l : Bz) (k : Nat) : Prop := k = 0 ∨ nameLen l = k + tailLen (l.drop k)
theorem at_drop {l : Bz} {k : Nat} {c : UInt8} (h : l[k]? = some c) : l.drop k = c :: l.drop (k + 1) := by
  have hk : k < l.length := by
    by_cases h2 : k < l.length
    · exact h2
    · rw [List.getElem?_eq_none (by omega)] at h; cases h
  rw [List.drop_eq_getElem_cons hk]
  rw [List.getElem?_eq_getElem hk] at h
  injection h with h
  rw [h]
theorem nm_step {l : Bz} {k : Nat} {c : UInt8} (h : NmAt l k) (hc : l[k]? = some c) (hg : goesOn k c = true) : NmAt l (k + 1) := by
  refine .inr ?_
  have hd := at_drop hc
  rcases h with rfl | h
  · have e : (isLetter c || c == 95) = true := by simpa [goesOn] using hg
    rw [List.drop_zero] at hd
    have : nameLen (c :: l.drop 1) = tailLen (l.drop 1) + 1 := by rw [nameLen, e, if_pos rfl]
    rw [← hd] at this
    show nameLen l = 0 + 1 + tailLen (l.drop 1)
    omega
  · rw [hd] at h
    by_cases k0 : k = 0
    · subst k0
      have e : (isLetter c || c == 95) = true := by simpa [goesOn] using hg
      rw [List.drop_zero] at hd
      have : nameLen (c :: l.drop 1) = tailLen (l.drop 1) + 1 := by rw [nameLen, e, if_pos rfl]
      rw [← hd] at this
      show nameLen l = 0 + 1 + tailLen (l.drop 1)
      omega
    · have e : isWordC c = true := by
        have : decide (0 < k) = true := decide_eq_true (by omega)
        rw [goesOn, this] at hg
        simpa [isWordC] using hg
      rw [tailLen, e, if_pos rfl] at h
      omega
theorem nm_stop {l : Bz} {k : Nat} (h : NmAt l k) (h2 : k = l.length ∨ ∃ c, l[k]? = some c ∧ goesOn k c = false) : nameLen l = k := by
  rcases h2 with rfl | ⟨c, hc, hg⟩
  · rcases h with h | h
    · have : l = [] := List.length_eq_zero_iff.1 h
      rw [this]; rfl
    · rw [List.drop_length] at h; exact h
  · have hd := at_drop hc
    by_cases k0 : k = 0
    · subst k0
      rw [List.drop_zero] at hd
      have e : (isLetter c || c == 95) = false := by simpa [goesOn] using hg
      rw [hd, nameLen, e]; rfl
    · rcases h with h | h
      · exact absurd h k0
      · have e : isWordC c = false := by
          have : decide (0 < k) = true := decide_eq_true (by omega)
          rw [goesOn, this] at hg
          simpa [isWordC] using hg
        rw [hd, tailLen, e] at h
        simpa using h
set_option maxRecDepth 100000 in
set_option maxHeartbeats 4000000 in
theorem Name_any (s : ByteArray) (hs : s.size ≤ 1000000) (w : World) : Calls Try.prog 78 #[.string s] w fun e w' => e = .returned (.int .i64 (nameLen s.data.toList)) ∧ w' = w := by
  have HD := Lib.hid (fun c w => Digit_any c w)
  have HL := Lib.hid (fun c w => Letter_any c w)
  obtain ⟨r, hr⟩ : ∃ r, nameLen s.data.toList = r := ⟨_, rfl⟩
  have HR := Lib.hid hr
  rw [hr]
  clear hr
  go_enter Try.func78, Try.ntmps78
  go_wp2_with fail
  go_loopw [3] (fun n wx => ∃ k : Nat, n = .int .i64 k ∧ k ≤ s.size ∧ wx = w ∧ Hid (NmAt s.data.toList k)) (fun n _ => s.size - (intOf n).toNat)
  case atStart => exact ⟨0, rfl, Nat.zero_le _, rfl, .inl rfl⟩
  case round =>
    obtain ⟨k, rfl, hk, rfl, HK⟩ := hrel
    have hk0 : (0 : Int) ≤ (k : Int) := by omega
    by_cases hlt : k < s.size
    · have hltI : (k : Int) < (s.size : Int) := by omega
      have hltd : decide ((k : Int) < (s.size : Int)) = true := decide_eq_true hltI
      have hat := data_get s k hlt
      obtain ⟨c, hc⟩ : ∃ c, s[k]'hlt = c := ⟨_, rfl⟩
      rw [hc] at hat
      have HAT := Lib.hid hat
      have h95 := byte_eq c 95
      rw [show ((95 : UInt8).toNat : Int) = 95 from rfl] at h95
      obtain ⟨z1, hz1⟩ : ∃ z, isLetter c = z := ⟨_, rfl⟩
      obtain ⟨z2, hz2⟩ : ∃ z, (c == 95) = z := ⟨_, rfl⟩
      obtain ⟨z3, hz3⟩ : ∃ z, decide ((0 : Int) < (k : Int)) = z := ⟨_, rfl⟩
      have hz3' : decide (0 < k) = z3 := by
        rw [← hz3]
        by_cases h : 0 < k
        · rw [decide_eq_true h, decide_eq_true (by omega)]
        · rw [decide_eq_false h, decide_eq_false (by omega)]
      obtain ⟨z4, hz4⟩ : ∃ z, isDigit c = z := ⟨_, rfl⟩
      have HG : Hid (goesOn k c = (z1 || z2 || (z3 && z4))) := by rw [Hid, ← hz1, ← hz2, ← hz3', ← hz4]; rfl
      have HDC := Lib.hid (HD.out c)
      have HLC := Lib.hid (HL.out c)
      rw [hz4] at HDC
      rw [hz1] at HLC
      rw [hz2] at h95
      have hb64 : IntKind.i64.wrap ((k : Int) + 1) = (k : Int) + 1 := IntWalk.i64_in _ (by omega)
      obtain ⟨g, hg⟩ : ∃ g, goesOn k c = g := ⟨_, rfl⟩
      have HGG := Lib.hid hg
      rw [hg] at HG
      clear hat hz1 hz2 hz4 hg
      cases z1 <;> cases z2 <;> cases z3 <;> cases z4
      all_goals
        go_wp2_with (first
          | (go_at_call 84; refine (HLC.out _).mono ?_; rintro e w1 ⟨rfl, h1⟩; obtain rfl := h1.symm; simp only [])
          | (go_at_call 79; refine (HDC.out _).mono ?_; rintro e w1 ⟨rfl, h1⟩; obtain rfl := h1.symm; simp only []))
        first
          | (have HGT : Hid (goesOn k c = true) := by rw [Hid, HGG.out, HG.out]; rfl
             go_roundw
             case measure => simp [intOf]; omega
             case rel => exact ⟨k + 1, by go_num, by omega, trivial, nm_step HK.out HAT.out HGT.out⟩)
          | (have HGF : Hid (goesOn k c = false) := by rw [Hid, HGG.out, HG.out]; rfl
             have HE : Hid (nameLen s.data.toList = k) := nm_stop HK.out (.inr ⟨c, HAT.out, HGF.out⟩)
             go_ret
             exact ⟨by rw [← HR.out, HE.out]; rfl, rfl⟩)
    · have hltd : decide ((k : Int) < (s.size : Int)) = false := decide_eq_false (by omega)
      have HE : Hid (nameLen s.data.toList = k) := nm_stop HK.out (.inl (by rw [dl]; omega))
      go_wp2_with fail
      go_ret
      exact ⟨by rw [← HR.out, HE.out]; rfl, rfl⟩
theorem paramLen_le (l : Bz) : paramLen l ≤ l.length := by
  have hn : ∀ l, tailLen l ≤ l.length := by
    intro l
    induction l with
    | nil => exact Nat.le_refl _
    | cons c r ih => rw [tailLen]; split <;> simp; exact ih
  unfold paramLen
  split
  · cases l with
    | nil => exact Nat.le_refl _
    | cons c r => rw [nameLen]; split <;> simp; exact hn r
  · cases l with
    | nil => exact Nat.le_refl _
    | cons c r => simp only; split <;> simp
theorem paramLen_pos {l : Bz} (h : 0 < nameLen l) : paramLen l = nameLen l := by unfold paramLen; rw [if_pos h]
theorem paramLen_nil : paramLen [] = 0 := rfl
theorem paramLen_cons {c : UInt8} {r : Bz} (h : ¬ 0 < nameLen (c :: r)) : paramLen (c :: r) = if isDigit c || signs.contains c then 1 else 0 := by unfold paramLen; rw [if_neg h]
theorem digitsLen_le (l : Bz) : digitsLen l ≤ l.length := by
  induction l with
  | nil => exact Nat.le_refl _
  | cons c r ih => rw [digitsLen]; split <;> simp; exact ih
theorem longParam_le (l : Bz) : longParam l ≤ l.length := Nat.max_le.2 ⟨paramLen_le l, digitsLen_le l⟩
set_option maxRecDepth 100000 in
set_option maxHeartbeats 4000000 in
theorem paramLen_any (s : ByteArray) (hs : s.size ≤ 1000000) (w : World) : Calls Try.prog 62 #[.string s] w fun e w' => e = .returned (.int .i64 (paramLen s.data.toList)) ∧ w' = w := by
  have HD := Lib.hid (fun c w => Digit_any c w)
  have HN := Lib.hid (fun w => Name_any s hs w)
  obtain ⟨n, hn⟩ : ∃ n, nameLen s.data.toList = n := ⟨_, rfl⟩
  rw [hn] at HN
  obtain ⟨r, hr⟩ : ∃ r, paramLen s.data.toList = r := ⟨_, rfl⟩
  rw [hr]
  by_cases h0 : 0 < n
  · have hd : decide ((0 : Int) < (n : Int)) = true := decide_eq_true (by omega)
    have HR : Hid (r = n) := by rw [Hid, ← hr, paramLen_pos (by rw [hn]; exact h0), hn]
    clear hn hr
    go_enter Try.func62, Try.ntmps62
    go_wp2_with (go_at_call 78; refine (HN.out _).mono ?_; rintro e w1 ⟨rfl, h1⟩; obtain rfl := h1.symm; simp only [])
    go_ret
    rw [HR.out]
    exact ⟨rfl, rfl⟩
  · obtain rfl : n = 0 := by omega
    by_cases he : s.data.toList = []
    · have h2 : s.toList.isEmpty = true := isE_of he
      have HR : Hid (r = 0) := by rw [Hid, ← hr, he]; rfl
      clear hn hr he
      go_enter Try.func62, Try.ntmps62
      go_wp2_with (go_at_call 78; refine (HN.out _).mono ?_; rintro e w1 ⟨rfl, h1⟩; obtain rfl := h1.symm; simp only [])
      go_ret
      rw [HR.out]
      exact ⟨rfl, rfl⟩
    · have h2 : s.toList.isEmpty = false := isE_ne he
      have hsz : 0 < s.size := by rw [← dl]; exact List.length_pos_iff.2 he
      have hszI : (0 : Int) < (s.size : Int) := by omega
      have hat := data_get s 0 hsz
      obtain ⟨c, hc⟩ : ∃ c, s[0]'hsz = c := ⟨_, rfl⟩
      rw [hc] at hat
      have HI := Lib.hid (fun w => Try.strings_IndexByte ⟨#[63, 35, 64, 42]⟩ c.toNat w)
      have hcc : ((c.toNat : Int).toNat).toUInt8 = c := by simp
      rw [hcc] at HI
      have hx := contains_idx c [63, 35, 64, 42]
      obtain ⟨x, hx1⟩ : ∃ x, isDigit c = x := ⟨_, rfl⟩
      obtain ⟨y, hy1⟩ : ∃ y, [63, 35, 64, 42].contains c = y := ⟨_, rfl⟩
      have HR : Hid (r = if (x || y) = true then 1 else 0) := by
        have hdr := at_drop hat
        rw [List.drop_zero] at hdr
        rw [hdr] at hn
        rw [Hid, ← hr, hdr, paramLen_cons (by rw [hn]; exact h0), ← hx1, ← hy1]; rfl
      have HDC := Lib.hid (HD.out c)
      rw [hx1] at HDC
      rw [hy1] at hx
      obtain ⟨z, hz⟩ : ∃ z, Lib.indexByte [63, 35, 64, 42] c = z := ⟨_, rfl⟩
      have HI2 : Hid (∀ w, Calls Try.prog 73 #[.string ⟨#[63, 35, 64, 42]⟩, .int .u8 c.toNat] w fun e w' => e = .returned (.int .i64 z) ∧ w' = w) := by rw [Hid, ← hz]; exact HI.out
      rw [hz] at hx
      clear hn hr he hx1 hy1 hz HI hcc hat
      cases x <;> cases y
      all_goals
        go_enter Try.func62, Try.ntmps62
        go_wp2_with (first
          | (go_at_call 78; refine (HN.out _).mono ?_; rintro e w1 ⟨rfl, h1⟩; obtain rfl := h1.symm; simp only [])
          | (go_at_call 79; refine (HDC.out _).mono ?_; rintro e w1 ⟨rfl, h1⟩; obtain rfl := h1.symm; simp only [])
          | (go_at_call 73; refine (HI2.out _).mono ?_; rintro e w1 ⟨rfl, h1⟩; obtain rfl := h1.symm; simp only []))
        go_ret
        rw [HR.out]
        exact ⟨rfl, rfl⟩
set_option maxRecDepth 100000 in
set_option maxHeartbeats 4000000 in
theorem longParam_any (s : ByteArray) (hs : s.size ≤ 1000000) (w : World) : Calls Try.prog 76 #[.string s] w fun e w' => e = .returned (.int .i64 (longParam s.data.toList)) ∧ w' = w := by
  have HP := Lib.hid (fun w => paramLen_any s hs w)
  have HD := Lib.hid (fun w => Digits_any s hs w)
  obtain ⟨r, hr⟩ : ∃ r, longParam s.data.toList = r := ⟨_, rfl⟩
  obtain ⟨a, ha⟩ : ∃ a, paramLen s.data.toList = a := ⟨_, rfl⟩
  obtain ⟨b, hb⟩ : ∃ b, digitsLen s.data.toList = b := ⟨_, rfl⟩
  have hmx : max (a : Int) (b : Int) = (r : Int) := by rw [← hr, longParam, ha, hb]; omega
  rw [ha] at HP
  rw [hb] at HD
  rw [hr]
  clear hr ha hb
  go_enter Try.func76, Try.ntmps76
  go_wp2_with (first
    | (go_at_call 62; refine (HP.out _).mono ?_; rintro e w1 ⟨rfl, h1⟩; obtain rfl := h1.symm; simp only [])
    | (go_at_call 83; refine (HD.out _).mono ?_; rintro e w1 ⟨rfl, h1⟩; obtain rfl := h1.symm; simp only []))
  go_ret
  exact ⟨rfl, rfl⟩
end Go.Proofs.Ytafbheplaheohaa

namespace Go.Proofs.Ytafbheplaheohaa
open Go.RowKit
set_option linter.unusedVariables false

theorem quotT_false (q c : UInt8) (r : Bz) : quotT q false (c :: r) = if c = q then 1 else if c = 92 ∧ q = 34 then quotT q true r + 1 else quotT q false r + 1 := rfl
/-- From here on a quotation goes on. -/
def QuotAt (q : UInt8) (s : ByteArray) (k : Nat) : Prop := quotT q false (s.data.toList.drop 1) + 1 = k + quotT q false (s.data.toList.drop k)
set_option maxRecDepth 100000 in
set_option maxHeartbeats 4000000 in
theorem quotation_any (s : ByteArray) (hs : s.size ≤ 1000000) (h1 : 0 < s.size) (q : UInt8) (hq : s[0]'h1 = q) (w : World) :
    Calls Try.prog 77 #[.string s] w fun e w' => e = .returned (.int .i64 ((quotT q false (s.data.toList.drop 1) : Int) + 1)) ∧ Below w.heap.size w w' := by
  obtain ⟨r, hr⟩ : ∃ r : Nat, quotT q false (s.data.toList.drop 1) + 1 = r := ⟨_, rfl⟩
  have hrI : (quotT q false (s.data.toList.drop 1) : Int) + 1 = (r : Int) := by omega
  rw [hrI]
  have HR := Lib.hid hr
  have h1I : (0 : Int) < (s.size : Int) := by omega
  have h34 := byte_eq q 34
  rw [show ((34 : UInt8).toNat : Int) = 34 from rfl] at h34
  obtain ⟨z4, hz4⟩ : ∃ z, (q == 34) = z := ⟨_, rfl⟩
  have HZ4 := Lib.hid hz4
  rw [hz4] at h34
  clear hr hrI hz4
  go_enter Try.func77, Try.ntmps77
  go_wp2_with fail
  go_loopw [3] (fun n wx => ∃ k : Nat, n = .int .i64 k ∧ 1 ≤ k ∧ k ≤ s.size + 1 ∧ Below w.heap.size w wx ∧ Hid ((k ≤ s.size → QuotAt q s k) ∧ (s.size < k → s.size + 1 = r))) (fun n _ => s.size + 2 - (intOf n).toNat)
  case atStart => exact ⟨1, rfl, Nat.le_refl _, by omega, Below.refl _ _, fun _ => by unfold QuotAt; omega, fun h => by omega⟩
  case round =>
    obtain ⟨k, rfl, hk1, hk2, hbel, HK⟩ := hrel
    have HBEL := Lib.hid hbel
    clear hbel
    have hk0 : (0 : Int) ≤ (k : Int) := by omega
    have hsw : IntKind.i64.wrap ((s.size : Int) + 1) = (s.size : Int) + 1 := IntWalk.i64_in _ (by omega)
    by_cases hlt : k < s.size
    · have hltI : (k : Int) < (s.size : Int) := by omega
      have hltd : decide ((k : Int) < (s.size : Int)) = true := decide_eq_true hltI
      have hat := data_get s k hlt
      obtain ⟨c, hc⟩ : ∃ c, s[k]'hlt = c := ⟨_, rfl⟩
      rw [hc] at hat
      have hdr := at_drop hat
      have HAT : Hid (r = k + (if c = q then 1 else if c = 92 ∧ q = 34 then quotT q true (s.data.toList.drop (k + 1)) + 1 else quotT q false (s.data.toList.drop (k + 1)) + 1)) := by
        have := HK.out.1 (by omega)
        unfold QuotAt at this
        rw [hdr, quotT_false, HR.out] at this
        exact this
      have hb64 : IntKind.i64.wrap ((k : Int) + 1) = (k : Int) + 1 := IntWalk.i64_in _ (by omega)
      have hb65 : IntKind.i64.wrap ((k : Int) + 1 + 1) = (k : Int) + 1 + 1 := IntWalk.i64_in _ (by omega)
      have hcq := byte_eq c q
      have h92 := byte_eq c 92
      rw [show ((92 : UInt8).toNat : Int) = 92 from rfl] at h92
      obtain ⟨z1, hz1⟩ : ∃ z, (c == q) = z := ⟨_, rfl⟩
      obtain ⟨z2, hz2⟩ : ∃ z, (c == 92) = z := ⟨_, rfl⟩
      rw [hz1] at hcq
      rw [hz2] at h92
      have HZ1 := Lib.hid hz1
      have HZ2 := Lib.hid hz2
      clear hat hdr hz1 hz2
      have hqa : ∀ j, r = j + quotT q false (s.data.toList.drop j) → QuotAt q s j := fun j h => by unfold QuotAt; rw [HR.out]; exact h
      have HQA := Lib.hid hqa
      clear hqa
      cases z1 with
      | true =>
        have HE : Hid (r = k + 1) := by
          have : c = q := by simpa using HZ1.out
          rw [Hid, HAT.out, if_pos this]
        go_wp2_with fail
        go_quiet (fail)
        go_wp2_with fail
        go_ret
        refine ⟨?_, HBEL.out.trans ((drew_below _ _).mono HBEL.out.size)⟩
        rw [HE.out]; rfl
      | false =>
        have hcn : ¬ c = q := by simpa using HZ1.out
        have HRR : Hid (r = k + (if c = 92 ∧ q = 34 then quotT q true (s.data.toList.drop (k + 1)) + 1 else quotT q false (s.data.toList.drop (k + 1)) + 1)) := by rw [Hid, HAT.out, if_neg hcn]
        clear hcn
        have H2 : Hid ((c = 92 ∧ q = 34) ↔ (z2 && z4) = true) := by
          rw [Hid, ← HZ2.out, ← HZ4.out]; simp
        cases z2 <;> cases z4
        all_goals
          go_wp2_with fail
          go_quiet (fail)
          go_wp2_with fail
          go_roundw
          case measure => simp [intOf]; omega
          case rel =>
            first
              | (refine ⟨k + 1, by go_num, by omega, by omega, HBEL.out.trans ((drew_below _ _).mono HBEL.out.size), fun _ => HQA.out _ ?_, fun h => by omega⟩
                 have h := HRR.out
                 rw [if_neg (fun e => by have := H2.out.1 e; simp at this)] at h
                 omega)
              | (refine ⟨k + 2, by go_num, by omega, by omega, HBEL.out.trans ((drew_below _ _).mono HBEL.out.size), fun h => HQA.out _ ?_, fun h => ?_⟩
                 · have h2 := HRR.out
                   rw [if_pos (H2.out.2 rfl), List.drop_eq_getElem_cons (by rw [dl]; omega)] at h2
                   have e : ∀ x (l : Bz), quotT q true (x :: l) = quotT q false l + 1 := fun _ _ => rfl
                   rw [e, show k + 1 + 1 = k + 2 from rfl] at h2
                   omega
                 · have h2 := HRR.out
                   rw [if_pos (H2.out.2 rfl), List.drop_of_length_le (by rw [dl]; omega)] at h2
                   have e : quotT q true [] = 1 := rfl
                   rw [e] at h2
                   omega)
    · have hltd : decide ((k : Int) < (s.size : Int)) = false := decide_eq_false (by omega)
      have HE : Hid (s.size + 1 = r) := by
        by_cases hks : k = s.size
        · have := HK.out.1 (by omega)
          unfold QuotAt at this
          rw [hks, List.drop_of_length_le (i := s.size) (by rw [dl]; exact Nat.le_refl _), HR.out] at this
          rw [Hid, this]; rfl
        · exact HK.out.2 (by omega)
      go_wp2_with fail
      go_ret
      refine ⟨?_, HBEL.out⟩
      rw [← HE.out]; rfl
end Go.Proofs.Ytafbheplaheohaa
