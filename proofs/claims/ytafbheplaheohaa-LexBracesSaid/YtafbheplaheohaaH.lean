import Derived.Test.YtafbheplaheohaaG
namespace Go.Proofs.Ytafbheplaheohaa
open Go.RowKit
set_option linter.unusedVariables false

theorem data_get (s : ByteArray) (k : Nat) (h : k < s.size) : s.data.toList[k]? = some (s[k]'h) := by
  rw [List.getElem?_eq_getElem (by rw [dl]; exact h)]; rfl
theorem byte_lt (c : UInt8) : (c.toNat : Int) < 256 := by have := c.toNat_lt; omega
theorem ble (a b : UInt8) : decide ((a.toNat : Int) ≤ (b.toNat : Int)) = decide (a ≤ b) := by
  have : a ≤ b ↔ a.toNat ≤ b.toNat := UInt8.le_iff_toNat_le
  by_cases h : a ≤ b
  · rw [decide_eq_true h, decide_eq_true (by have := this.1 h; omega)]
  · rw [decide_eq_false h, decide_eq_false (fun e => h (this.2 (by omega)))]
set_option maxRecDepth 100000 in
set_option maxHeartbeats 400000 in
theorem Blank_any (c : UInt8) (w : World) : Calls Try.prog 30 #[.int .u8 c.toNat] w fun e w' => e = .returned (.bool (isBlank c)) ∧ w' = w := by
  have h1 := byte_eq c 32
  have h2 := byte_eq c 9
  rw [show ((32 : UInt8).toNat : Int) = 32 from rfl] at h1
  rw [show ((9 : UInt8).toNat : Int) = 9 from rfl] at h2
  obtain ⟨x, hx⟩ : ∃ x, (c == 32) = x := ⟨_, rfl⟩
  obtain ⟨y, hy⟩ : ∃ y, (c == 9) = y := ⟨_, rfl⟩
  have HB : Hid (isBlank c = (x || y)) := by rw [Hid, ← hx, ← hy]; rfl
  rw [hx] at h1
  rw [hy] at h2
  obtain ⟨r, hr⟩ : ∃ r, isBlank c = r := ⟨_, rfl⟩
  rw [hr] at HB ⊢
  clear hx hy hr
  cases x <;> cases y
  all_goals
    go_enter Try.func30, Try.ntmps30
    go_wp2_with fail
    go_ret
    rw [HB.out]
    exact ⟨rfl, rfl⟩
set_option maxRecDepth 100000 in
set_option maxHeartbeats 400000 in
theorem Space_any (c : UInt8) (w : World) : Calls Try.prog 72 #[.int .u8 c.toNat] w fun e w' => e = .returned (.bool (isSpace c)) ∧ w' = w := by
  have h1 := byte_eq c 10
  rw [show ((10 : UInt8).toNat : Int) = 10 from rfl] at h1
  obtain ⟨x, hx⟩ : ∃ x, (c == 10) = x := ⟨_, rfl⟩
  have HBL := Lib.hid (fun w => Blank_any c w)
  obtain ⟨y, hy⟩ : ∃ y, isBlank c = y := ⟨_, rfl⟩
  have HB : Hid (isSpace c = (y || x)) := by rw [Hid, ← hx, ← hy]; rfl
  rw [hx] at h1
  rw [hy] at HBL
  obtain ⟨r, hr⟩ : ∃ r, isSpace c = r := ⟨_, rfl⟩
  rw [hr] at HB ⊢
  clear hx hy hr
  cases x <;> cases y
  all_goals
    go_enter Try.func72, Try.ntmps72
    go_wp2_with (go_at_call 30; refine (HBL.out _).mono ?_; rintro e w1 ⟨rfl, h1⟩; obtain rfl := h1.symm; simp only [])
    go_ret
    rw [HB.out]
    exact ⟨rfl, rfl⟩
set_option maxRecDepth 100000 in
set_option maxHeartbeats 400000 in
theorem Digit_any (c : UInt8) (w : World) : Calls Try.prog 79 #[.int .u8 c.toNat] w fun e w' => e = .returned (.bool (isDigit c)) ∧ w' = w := by
  have h1 := ble 48 c
  have h2 := ble c 57
  rw [show ((48 : UInt8).toNat : Int) = 48 from rfl] at h1
  rw [show ((57 : UInt8).toNat : Int) = 57 from rfl] at h2
  obtain ⟨x, hx⟩ : ∃ x, decide (48 ≤ c) = x := ⟨_, rfl⟩
  obtain ⟨y, hy⟩ : ∃ y, decide (c ≤ 57) = y := ⟨_, rfl⟩
  have HB : Hid (isDigit c = (x && y)) := by rw [Hid, ← hx, ← hy]; unfold isDigit; simp
  rw [hx] at h1
  rw [hy] at h2
  obtain ⟨r, hr⟩ : ∃ r, isDigit c = r := ⟨_, rfl⟩
  rw [hr] at HB ⊢
  clear hx hy hr
  cases x <;> cases y
  all_goals
    go_enter Try.func79, Try.ntmps79
    go_wp2_with fail
    go_ret
    rw [HB.out]
    exact ⟨rfl, rfl⟩
theorem low_all : ∀ n : Fin 256, (decide ((97 : Int) ≤ bits .or .u8 (n.val : Int) 32) && decide (bits .or .u8 (n.val : Int) 32 ≤ 122)) = isLetter (UInt8.ofNat n.val) := by decide +kernel
theorem isLetter_int (c : UInt8) : isLetter c = (decide ((97 : Int) ≤ bits .or .u8 (c.toNat : Int) 32) && decide (bits .or .u8 (c.toNat : Int) 32 ≤ 122)) := by
  have := low_all ⟨c.toNat, c.toNat_lt⟩
  simp only [UInt8.ofNat_toNat] at this
  exact this.symm
set_option maxRecDepth 100000 in
set_option maxHeartbeats 400000 in
theorem Letter_any (c : UInt8) (w : World) : Calls Try.prog 84 #[.int .u8 c.toNat] w fun e w' => e = .returned (.bool (isLetter c)) ∧ w' = w := by
  rw [isLetter_int]
  obtain ⟨m, hm⟩ : ∃ m, bits .or .u8 (c.toNat : Int) 32 = m := ⟨_, rfl⟩
  rw [hm]
  obtain ⟨b1, h1⟩ : ∃ b, decide ((97 : Int) ≤ m) = b := ⟨_, rfl⟩
  obtain ⟨b2, h2⟩ : ∃ b, decide (m ≤ 122) = b := ⟨_, rfl⟩
  rw [h1, h2]
  cases b1 <;> cases b2
  all_goals
    go_enter Try.func84, Try.ntmps84
    go_wp2_with fail
    go_ret
    exact ⟨rfl, rfl⟩
theorem digits_step {l : Bz} {k : Nat} : digitsLen l = k + digitsLen (l.drop k) → ∀ (c : UInt8), l[k]? = some c → isDigit c = true → digitsLen l = (k + 1) + digitsLen (l.drop (k + 1)) := by
  intro h c hc hd
  have hk : k < l.length := by
    by_cases h : k < l.length
    · exact h
    · rw [List.getElem?_eq_none (by omega)] at hc; cases hc
  rw [List.drop_eq_getElem_cons hk] at h
  have : l[k] = c := by rw [List.getElem?_eq_getElem hk] at hc; injection hc
  rw [this, digitsLen, hd, if_pos rfl] at h
  omega
theorem digits_stop {l : Bz} {k : Nat} (h : digitsLen l = k + digitsLen (l.drop k)) (h2 : k = l.length ∨ ∃ c, l[k]? = some c ∧ isDigit c = false) : digitsLen l = k := by
  rcases h2 with rfl | ⟨c, hc, hd⟩
  · rw [List.drop_length] at h; exact h
  · have hk : k < l.length := by
      by_cases h : k < l.length
      · exact h
      · rw [List.getElem?_eq_none (by omega)] at hc; cases hc
    rw [List.drop_eq_getElem_cons hk] at h
    have : l[k] = c := by rw [List.getElem?_eq_getElem hk] at hc; injection hc
    rw [this, digitsLen, hd] at h
    simpa using h
set_option maxRecDepth 100000 in
set_option maxHeartbeats 1000000 in
theorem Digits_any (s : ByteArray) (hs : s.size ≤ 1000000) (w : World) : Calls Try.prog 83 #[.string s] w fun e w' => e = .returned (.int .i64 (digitsLen s.data.toList)) ∧ w' = w := by
  have HD := Lib.hid (fun c w => Digit_any c w)
  obtain ⟨r, hr⟩ : ∃ r, digitsLen s.data.toList = r := ⟨_, rfl⟩
  have HR := Lib.hid hr
  rw [hr]
  clear hr
  go_enter Try.func83, Try.ntmps83
  go_wp2_with fail
  go_loopw [3] (fun n wx => ∃ k : Nat, n = .int .i64 k ∧ k ≤ s.size ∧ wx = w ∧ Hid (digitsLen s.data.toList = k + digitsLen (s.data.toList.drop k))) (fun n _ => s.size - (intOf n).toNat)
  case atStart => exact ⟨0, rfl, Nat.zero_le _, rfl, by rw [Hid]; simp⟩
  case round =>
    obtain ⟨k, rfl, hk, rfl, HK⟩ := hrel
    have hk0 : (0 : Int) ≤ (k : Int) := by omega
    by_cases hlt : k < s.size
    · have hltI : (k : Int) < (s.size : Int) := by omega
      have hltd : decide ((k : Int) < (s.size : Int)) = true := decide_eq_true hltI
      have hat := data_get s k hlt
      obtain ⟨c, hc⟩ : ∃ c, s[k]'hlt = c := ⟨_, rfl⟩
      rw [hc] at hat
      have HAT := Lib.hid hat
      obtain ⟨z, hz⟩ : ∃ z, isDigit c = z := ⟨_, rfl⟩
      have HZ := Lib.hid hz
      have HDC := Lib.hid (HD.out c)
      rw [hz] at HDC
      have hb64 : IntKind.i64.wrap ((k : Int) + 1) = (k : Int) + 1 := IntWalk.i64_in _ (by omega)
      clear hat hz
      cases z with
      | true =>
        go_wp2_with (go_at_call 79; refine (HDC.out _).mono ?_; rintro e w1 ⟨rfl, h1⟩; obtain rfl := h1.symm; simp only [])
        go_roundw
        case measure => simp [intOf]; omega
        case rel => exact ⟨k + 1, by go_num, by omega, trivial, digits_step HK.out c HAT.out HZ.out⟩
      | false =>
        have HE : Hid (digitsLen s.data.toList = k) := digits_stop HK.out (.inr ⟨c, HAT.out, HZ.out⟩)
        go_wp2_with (go_at_call 79; refine (HDC.out _).mono ?_; rintro e w1 ⟨rfl, h1⟩; obtain rfl := h1.symm; simp only [])
        go_ret
        exact ⟨by rw [← HR.out, HE.out]; rfl, rfl⟩
    · have hltd : decide ((k : Int) < (s.size : Int)) = false := decide_eq_false (by omega)
      have HE : Hid (digitsLen s.data.toList = k) := digits_stop HK.out (.inl (by rw [dl]; omega))
      go_wp2_with fail
      go_ret
      exact ⟨by rw [← HR.out, HE.out]; rfl, rfl⟩
end Go.Proofs.Ytafbheplaheohaa
