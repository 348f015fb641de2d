import Derived.Test.YthbemfpoanmjcaaDoorO
namespace Go.Proofs.YthbemfpoanmjcaaDoor
open Go.RowKit
set_option linter.unusedVariables false

/-! Names. -/
def isDig (c : UInt8) : Bool := decide (48 ≤ c.toNat ∧ c.toNat ≤ 57)
theorem isDig_int (c : UInt8) : isDig c = (decide ((48 : Int) ≤ (c.toNat : Int)) && decide ((c.toNat : Int) ≤ 57)) := by
  unfold isDig
  rw [Bool.eq_iff_iff, Bool.and_eq_true, decide_eq_true_iff, decide_eq_true_iff, decide_eq_true_iff]; omega
def isLtr (c : UInt8) : Bool := decide ((65 ≤ c.toNat ∧ c.toNat ≤ 90) ∨ (97 ≤ c.toNat ∧ c.toNat ≤ 122))
theorem low_all : ∀ n : Fin 256, (decide ((97 : Int) ≤ bits .or .u8 (n.val : Int) 32) && decide (bits .or .u8 (n.val : Int) 32 ≤ 122)) = decide ((65 ≤ n.val ∧ n.val ≤ 90) ∨ (97 ≤ n.val ∧ n.val ≤ 122)) := by decide +kernel
theorem isLtr_int (c : UInt8) : isLtr c = (decide ((97 : Int) ≤ bits .or .u8 (c.toNat : Int) 32) && decide (bits .or .u8 (c.toNat : Int) 32 ≤ 122)) := (low_all ⟨c.toNat, c.toNat_lt⟩).symm
theorem Digit_any (c : UInt8) (w : World) : Calls Tryd.prog 27 #[.int .u8 c.toNat] w fun e w' => e = .returned (.bool (isDig c)) ∧ w' = w := by
  rw [isDig_int]
  obtain ⟨b1, h1⟩ : ∃ b, decide ((48 : Int) ≤ (c.toNat : Int)) = b := ⟨_, rfl⟩
  obtain ⟨b2, h2⟩ : ∃ b, decide ((c.toNat : Int) ≤ 57) = b := ⟨_, rfl⟩
  rw [h1, h2]
  cases b1 <;> cases b2
  all_goals
    go_enter Tryd.func27, Tryd.ntmps27
    go_wp2_with fail
    go_ret
    exact ⟨rfl, rfl⟩
theorem RefDigit_any (c : UInt8) (w : World) : Calls Tryd.prog 22 #[.int .u8 c.toNat] w fun e w' => e = .returned (.bool (isDig c)) ∧ w' = w := by
  rw [isDig_int]
  obtain ⟨b1, h1⟩ : ∃ b, decide ((48 : Int) ≤ (c.toNat : Int)) = b := ⟨_, rfl⟩
  obtain ⟨b2, h2⟩ : ∃ b, decide ((c.toNat : Int) ≤ 57) = b := ⟨_, rfl⟩
  rw [h1, h2]
  cases b1 <;> cases b2
  all_goals
    go_enter Tryd.func22, Tryd.ntmps22
    go_wp2_with fail
    go_ret
    exact ⟨rfl, rfl⟩
theorem Letter_any (c : UInt8) (w : World) : Calls Tryd.prog 26 #[.int .u8 c.toNat] w fun e w' => e = .returned (.bool (isLtr c)) ∧ w' = w := by
  rw [isLtr_int]
  obtain ⟨m, hm⟩ : ∃ m, bits .or .u8 (c.toNat : Int) 32 = m := ⟨_, rfl⟩
  rw [hm]
  obtain ⟨b1, h1⟩ : ∃ b, decide ((97 : Int) ≤ m) = b := ⟨_, rfl⟩
  obtain ⟨b2, h2⟩ : ∃ b, decide (m ≤ 122) = b := ⟨_, rfl⟩
  rw [h1, h2]
  cases b1 <;> cases b2
  all_goals
    go_enter Tryd.func26, Tryd.ntmps26
    go_wp2_with fail
    go_ret
    exact ⟨rfl, rfl⟩
def isPart (c : UInt8) : Bool := isLtr c || isDig c || decide (0 ≤ Lib.indexByte [95, 46, 45] c)
theorem sign_all : ∀ n : Fin 256, decide (0 ≤ Lib.indexByte [95, 46, 45] (UInt8.ofNat n.val)) = (UInt8.ofNat n.val == 95 || UInt8.ofNat n.val == 46 || UInt8.ofNat n.val == 45) := by decide +kernel
theorem sign_eq (c : UInt8) : decide (0 ≤ Lib.indexByte [95, 46, 45] c) = (c == 95 || c == 46 || c == 45) := by
  have h := sign_all ⟨c.toNat, c.toNat_lt⟩
  rw [show UInt8.ofNat c.toNat = c by simp] at h
  exact h
theorem Part_any (c : UInt8) (w : World) : Calls Tryd.prog 21 #[.int .u8 c.toNat] w fun e w' => e = .returned (.bool (isPart c)) ∧ w' = w := by
  have HL := Lib.hid (fun w => Letter_any c w)
  have HD := Lib.hid (fun w => Digit_any c w)
  have HI : Hid (∀ w, Calls Tryd.prog 28 #[.string ⟨#[95, 46, 45]⟩, .int .u8 c.toNat] w fun e w' => e = .returned (.int .i64 (Lib.indexByte [95, 46, 45] c)) ∧ w' = w) := fun w => by
    have := Tryd.strings_IndexByte ⟨#[95, 46, 45]⟩ (c.toNat : Int) w
    rw [show ((c.toNat : Int)).toNat.toUInt8 = c by simp] at this
    exact this
  unfold isPart
  obtain ⟨a, ha⟩ : ∃ a, isLtr c = a := ⟨_, rfl⟩
  obtain ⟨b, hb⟩ : ∃ b, isDig c = b := ⟨_, rfl⟩
  obtain ⟨i, hi⟩ : ∃ i, Lib.indexByte [95, 46, 45] c = i := ⟨_, rfl⟩
  rw [ha] at HL ⊢
  rw [hb] at HD ⊢
  rw [hi] at HI ⊢
  clear ha hb hi
  cases a <;> cases b
  all_goals
    go_enter Tryd.func21, Tryd.ntmps21
    go_wp2_with (first
      | (go_at_call 26; refine (HL.out _).mono ?_; rintro e w5 ⟨rfl, h5⟩; obtain rfl := h5.symm; simp only [])
      | (go_at_call 27; refine (HD.out _).mono ?_; rintro e w5 ⟨rfl, h5⟩; obtain rfl := h5.symm; simp only [])
      | (go_at_call 28; refine (HI.out _).mono ?_; rintro e w5 ⟨rfl, h5⟩; obtain rfl := h5.symm; simp only []))
    go_ret
    exact ⟨by simp, rfl⟩
/-- Is a text a name? -/
def nmB (s : Bs) : Bool := !s.isEmpty && (decide (s.length ≤ 60) && s.all isPart)
theorem nmB_bad {s : Bs} {c : UInt8} (h : c ∈ s) (hc : isPart c = false) : nmB s = false := by
  unfold nmB
  have : s.all isPart = false := by
    rw [Bool.eq_false_iff]
    intro ha
    have := List.all_eq_true.1 ha c h
    rw [hc] at this; cases this
  rw [this]; simp
theorem nmB_ok {s : Bs} (h0 : s ≠ []) (h1 : s.length ≤ 60) (h2 : ∀ c ∈ s, isPart c = true) : nmB s = true := by
  unfold nmB
  rw [List.all_eq_true.2 h2, decide_eq_true h1]
  cases s with
  | nil => exact absurd rfl h0
  | cons a t => rfl
set_option maxRecDepth 100000 in
set_option maxHeartbeats 4000000 in
theorem Name_any (s : ByteArray) (w : World) (hs : s.size ≤ 9223372036854775807) : Calls Tryd.prog 12 #[.string s] w fun e w' => e = .returned (.bool (nmB s.data.toList)) ∧ w' = w := by
  obtain ⟨G, hG⟩ : ∃ G, nmB s.data.toList = G := ⟨_, rfl⟩
  rw [hG]
  have HG := Lib.hid hG
  clear hG
  by_cases h0 : s.size = 0
  · have hnil : s.data.toList = [] := List.length_eq_zero_iff.1 (by rw [dl]; exact h0)
    have g1 := isE_of hnil
    obtain rfl : G = false := by rw [← HG.out, hnil]; rfl
    clear hnil
    go_enter Tryd.func12, Tryd.ntmps12
    go_wp2_with fail
    go_ret
    exact ⟨rfl, rfl⟩
  have hne : s.data.toList ≠ [] := fun e => h0 (by rw [← dl, e]; rfl)
  have g1 := isE_ne hne
  have HNE := Lib.hid hne
  clear hne
  by_cases h6 : 60 < s.size
  · have d6 : decide ((60 : Int) < (s.size : Int)) = true := decide_eq_true (by omega)
    obtain rfl : G = false := by rw [← HG.out]; unfold nmB; rw [decide_eq_false (by rw [dl]; omega)]; simp
    go_enter Tryd.func12, Tryd.ntmps12
    go_wp2_with fail
    go_ret
    exact ⟨rfl, rfl⟩
  have d6 : decide ((60 : Int) < (s.size : Int)) = false := decide_eq_false (by omega)
  go_enter Tryd.func12, Tryd.ntmps12
  go_wp2_with fail
  go_loopw [13] (fun i wx => ∃ k : Nat, k ≤ s.size ∧ i = .int .i64 k ∧ wx = w ∧ Hid (∀ c ∈ s.data.toList.take k, isPart c = true)) (fun i _ => s.size - (intOf i).toNat)
  case atStart => exact ⟨0, Nat.zero_le _, rfl, rfl, fun c hc => by cases hc⟩
  case round =>
    obtain ⟨k, hk, rfl, rfl, HA⟩ := hrel
    by_cases hlt : k < s.size
    · have hltd : decide ((k : Int) < (s.size : Int)) = true := decide_eq_true (by omega)
      have hltI : (k : Int) < (s.size : Int) := by omega
      have hk0 : (0 : Int) ≤ (k : Int) := by omega
      have hb64 : IntKind.i64.wrap ((k : Int) + 1) = (k : Int) + 1 := IntWalk.i64_in _ (by omega)
      have hat := Lib.data_getElem? s k hlt
      obtain ⟨c, hc⟩ : ∃ c, s[k]'hlt = c := ⟨_, rfl⟩
      rw [hc] at hat
      have HP := Lib.hid (fun w => Part_any c w)
      cases hp : isPart c with
      | true =>
        rw [hp] at HP
        have HN : Hid (∀ c ∈ s.data.toList.take (k + 1), isPart c = true) := fun d hd => by
          rw [List.take_add_one, hat] at hd
          rcases List.mem_append.1 hd with hd | hd
          · exact HA.out d hd
          · simp at hd; rw [hd]; exact hp
        clear hat hp
        go_wp2_with (go_at_call 21; refine (HP.out _).mono ?_; rintro e w5 ⟨rfl, h5⟩; obtain rfl := h5.symm; simp only [])
        go_roundw
        case measure => simp [intOf]; omega
        case rel => exact ⟨k + 1, by omega, by go_num, by simp, HN.out⟩
      | false =>
        rw [hp] at HP
        obtain rfl : G = false := by rw [← HG.out]; exact nmB_bad (List.mem_of_getElem? hat) hp
        clear hat hp
        go_wp2_with (go_at_call 21; refine (HP.out _).mono ?_; rintro e w5 ⟨rfl, h5⟩; obtain rfl := h5.symm; simp only [])
        go_ret
        exact ⟨rfl, rfl⟩
    · have hltd : decide ((k : Int) < (s.size : Int)) = false := decide_eq_false (by omega)
      obtain rfl : G = true := by rw [← HG.out]; exact nmB_ok HNE.out (by rw [dl]; omega) (fun c hc => HA.out c (by rw [List.take_of_length_le (by rw [dl]; omega)]; exact hc))
      go_wp2_with fail
      go_ret
      exact ⟨rfl, rfl⟩
theorem part_eq (c : UInt8) : isPart c = (isLtr c || isDig c || (c == 95 || c == 46 || c == 45)) := by unfold isPart; rw [sign_eq]
set_option maxRecDepth 100000 in
set_option maxHeartbeats 8000000 in
theorem RefName_any (s : ByteArray) (w : World) (hs : s.size ≤ 1000000) : Calls Tryd.prog 13 #[.string s] w fun e w' => e = .returned (.bool (nmB s.data.toList)) ∧ w' = w := by
  obtain ⟨G, hG⟩ : ∃ G, nmB s.data.toList = G := ⟨_, rfl⟩
  rw [hG]
  have HG := Lib.hid hG
  have hsI : (s.size : Int) ≤ 1000000 := by omega
  clear hG
  go_enter Tryd.func13, Tryd.ntmps13
  go_wp2_with fail
  go_loopw [3] (fun i wx => ∃ k : Nat, k ≤ s.size ∧ i = .int .i64 k ∧ wx = w ∧ Hid (∀ c ∈ s.data.toList.take k, isPart c = true)) (fun i _ => s.size - (intOf i).toNat)
  case atStart => exact ⟨0, Nat.zero_le _, rfl, rfl, fun c hc => by cases hc⟩
  case round =>
    obtain ⟨k, hk, rfl, rfl, HA⟩ := hrel
    by_cases hlt : k < s.size
    case neg =>
      have hltd : decide ((k : Int) < (s.size : Int)) = false := decide_eq_false (by omega)
      by_cases h0 : s.size = 0
      · have hnil : s.data.toList = [] := List.length_eq_zero_iff.1 (by rw [dl]; exact h0)
        have g1 := isE_of hnil
        obtain rfl : G = false := by rw [← HG.out, hnil]; rfl
        clear hnil
        go_wp2_with fail
        go_ret
        exact ⟨rfl, rfl⟩
      have hne : s.data.toList ≠ [] := fun e => h0 (by rw [← dl, e]; rfl)
      have g1 := isE_ne hne
      by_cases h6 : s.size ≤ 60
      · have d6 : decide ((s.size : Int) ≤ 60) = true := decide_eq_true (by omega)
        obtain rfl : G = true := by rw [← HG.out]; exact nmB_ok hne (by rw [dl]; omega) (fun c hc => HA.out c (by rw [List.take_of_length_le (by rw [dl]; omega)]; exact hc))
        clear hne
        go_wp2_with fail
        go_ret
        exact ⟨rfl, rfl⟩
      · have d6 : decide ((s.size : Int) ≤ 60) = false := decide_eq_false (by omega)
        obtain rfl : G = false := by rw [← HG.out]; unfold nmB; rw [decide_eq_false (by rw [dl]; omega)]; simp
        clear hne
        go_wp2_with fail
        go_ret
        exact ⟨rfl, rfl⟩
    case pos =>
    have hltd : decide ((k : Int) < (s.size : Int)) = true := decide_eq_true (by omega)
    have hltI : (k : Int) < (s.size : Int) := by omega
    have hk0 : (0 : Int) ≤ (k : Int) := by omega
    have hb64 : IntKind.i64.wrap ((k : Int) + 1) = (k : Int) + 1 := IntWalk.i64_in _ (by omega)
    have hat := Lib.data_getElem? s k hlt
    obtain ⟨c, hc⟩ : ∃ c, s[k]'hlt = c := ⟨_, rfl⟩
    rw [hc] at hat
    have HP := Lib.hid (fun w => RefDigit_any c w)
    have hpe := part_eq c
    have f95 := byte_eq c 95
    have f46 := byte_eq c 46
    have f45 := byte_eq c 45
    rw [show ((95 : UInt8).toNat : Int) = 95 from rfl] at f95
    rw [show ((46 : UInt8).toNat : Int) = 46 from rfl] at f46
    rw [show ((45 : UInt8).toNat : Int) = 45 from rfl] at f45
    have n95 : (c == 95) = decide (c.toNat = 95) := by rw [Bool.eq_iff_iff, beq_iff_eq, decide_eq_true_iff]; exact ⟨fun h => by rw [h]; rfl, fun h => UInt8.toNat_inj.1 h⟩
    have n46 : (c == 46) = decide (c.toNat = 46) := by rw [Bool.eq_iff_iff, beq_iff_eq, decide_eq_true_iff]; exact ⟨fun h => by rw [h]; rfl, fun h => UInt8.toNat_inj.1 h⟩
    have n45 : (c == 45) = decide (c.toNat = 45) := by rw [Bool.eq_iff_iff, beq_iff_eq, decide_eq_true_iff]; exact ⟨fun h => by rw [h]; rfl, fun h => UInt8.toNat_inj.1 h⟩
    rw [n95] at f95 hpe
    rw [n46] at f46 hpe
    rw [n45] at f45 hpe
    unfold isLtr at hpe
    have hdg : isDig c = decide (48 ≤ c.toNat ∧ c.toNat ≤ 57) := rfl
    rw [hdg] at hpe HP
    clear n95 n46 n45 hdg
    by_cases hw0 : 97 ≤ c.toNat ∧ c.toNat ≤ 122
    case pos =>
      have q1 : decide ((97 : Int) ≤ (c.toNat : Int)) = true := decide_eq_true (by omega)
      have q2 : decide ((c.toNat : Int) ≤ 122) = true := decide_eq_true (by omega)
      have q3 : decide ((65 : Int) ≤ (c.toNat : Int)) = true := decide_eq_true (by omega)
      have q4 : decide ((c.toNat : Int) ≤ 90) = false := decide_eq_false (by omega)
      rw [decide_eq_false (show ¬ (48 ≤ c.toNat ∧ c.toNat ≤ 57) by omega)] at hpe HP
      rw [decide_eq_false (show ¬ (c.toNat = 95) by omega)] at f95 hpe
      rw [decide_eq_false (show ¬ (c.toNat = 46) by omega)] at f46 hpe
      rw [decide_eq_false (show ¬ (c.toNat = 45) by omega)] at f45 hpe
      rw [decide_eq_true (show ((65 ≤ c.toNat ∧ c.toNat ≤ 90) ∨ (97 ≤ c.toNat ∧ c.toNat ≤ 122)) by omega)] at hpe
      simp only [Bool.true_or, Bool.or_true, Bool.or_false, Bool.false_or] at hpe
      clear hw0
      have HN : Hid (∀ c ∈ s.data.toList.take (k + 1), isPart c = true) := fun d hd => by
        rw [List.take_add_one, hat] at hd
        rcases List.mem_append.1 hd with hd | hd
        · exact HA.out d hd
        · simp at hd; rw [hd]; exact hpe
      clear hat hpe
      go_wp2_with (go_at_call 22; refine (HP.out _).mono ?_; rintro e w5 ⟨rfl, h5⟩; obtain rfl := h5.symm; simp only [])
      go_roundw
      case measure => simp [intOf]; omega
      case rel => exact ⟨k + 1, by omega, by go_num, by simp, HN.out⟩
    by_cases hw1 : 122 < c.toNat
    case pos =>
      have q1 : decide ((97 : Int) ≤ (c.toNat : Int)) = true := decide_eq_true (by omega)
      have q2 : decide ((c.toNat : Int) ≤ 122) = false := decide_eq_false (by omega)
      have q3 : decide ((65 : Int) ≤ (c.toNat : Int)) = true := decide_eq_true (by omega)
      have q4 : decide ((c.toNat : Int) ≤ 90) = false := decide_eq_false (by omega)
      rw [decide_eq_false (show ¬ (48 ≤ c.toNat ∧ c.toNat ≤ 57) by omega)] at hpe HP
      rw [decide_eq_false (show ¬ (c.toNat = 95) by omega)] at f95 hpe
      rw [decide_eq_false (show ¬ (c.toNat = 46) by omega)] at f46 hpe
      rw [decide_eq_false (show ¬ (c.toNat = 45) by omega)] at f45 hpe
      rw [decide_eq_false (show ¬ ((65 ≤ c.toNat ∧ c.toNat ≤ 90) ∨ (97 ≤ c.toNat ∧ c.toNat ≤ 122)) by omega)] at hpe
      simp only [Bool.true_or, Bool.or_true, Bool.or_false, Bool.false_or] at hpe
      clear hw0
      clear hw1
      obtain rfl : G = false := by rw [← HG.out]; exact nmB_bad (List.mem_of_getElem? hat) hpe
      clear hat hpe
      go_wp2_with (go_at_call 22; refine (HP.out _).mono ?_; rintro e w5 ⟨rfl, h5⟩; obtain rfl := h5.symm; simp only [])
      go_ret
      exact ⟨rfl, rfl⟩
    by_cases hw2 : c.toNat = 95
    case pos =>
      have q1 : decide ((97 : Int) ≤ (c.toNat : Int)) = false := decide_eq_false (by omega)
      have q2 : decide ((c.toNat : Int) ≤ 122) = true := decide_eq_true (by omega)
      have q3 : decide ((65 : Int) ≤ (c.toNat : Int)) = true := decide_eq_true (by omega)
      have q4 : decide ((c.toNat : Int) ≤ 90) = false := decide_eq_false (by omega)
      rw [decide_eq_false (show ¬ (48 ≤ c.toNat ∧ c.toNat ≤ 57) by omega)] at hpe HP
      rw [decide_eq_true (show (c.toNat = 95) by omega)] at f95 hpe
      rw [decide_eq_false (show ¬ (c.toNat = 46) by omega)] at f46 hpe
      rw [decide_eq_false (show ¬ (c.toNat = 45) by omega)] at f45 hpe
      rw [decide_eq_false (show ¬ ((65 ≤ c.toNat ∧ c.toNat ≤ 90) ∨ (97 ≤ c.toNat ∧ c.toNat ≤ 122)) by omega)] at hpe
      simp only [Bool.true_or, Bool.or_true, Bool.or_false, Bool.false_or] at hpe
      clear hw0
      clear hw1
      clear hw2
      have HN : Hid (∀ c ∈ s.data.toList.take (k + 1), isPart c = true) := fun d hd => by
        rw [List.take_add_one, hat] at hd
        rcases List.mem_append.1 hd with hd | hd
        · exact HA.out d hd
        · simp at hd; rw [hd]; exact hpe
      clear hat hpe
      go_wp2_with (go_at_call 22; refine (HP.out _).mono ?_; rintro e w5 ⟨rfl, h5⟩; obtain rfl := h5.symm; simp only [])
      go_roundw
      case measure => simp [intOf]; omega
      case rel => exact ⟨k + 1, by omega, by go_num, by simp, HN.out⟩
    by_cases hw3 : 90 < c.toNat
    case pos =>
      have q1 : decide ((97 : Int) ≤ (c.toNat : Int)) = false := decide_eq_false (by omega)
      have q2 : decide ((c.toNat : Int) ≤ 122) = true := decide_eq_true (by omega)
      have q3 : decide ((65 : Int) ≤ (c.toNat : Int)) = true := decide_eq_true (by omega)
      have q4 : decide ((c.toNat : Int) ≤ 90) = false := decide_eq_false (by omega)
      rw [decide_eq_false (show ¬ (48 ≤ c.toNat ∧ c.toNat ≤ 57) by omega)] at hpe HP
      rw [decide_eq_false (show ¬ (c.toNat = 95) by omega)] at f95 hpe
      rw [decide_eq_false (show ¬ (c.toNat = 46) by omega)] at f46 hpe
      rw [decide_eq_false (show ¬ (c.toNat = 45) by omega)] at f45 hpe
      rw [decide_eq_false (show ¬ ((65 ≤ c.toNat ∧ c.toNat ≤ 90) ∨ (97 ≤ c.toNat ∧ c.toNat ≤ 122)) by omega)] at hpe
      simp only [Bool.true_or, Bool.or_true, Bool.or_false, Bool.false_or] at hpe
      clear hw0
      clear hw1
      clear hw2
      clear hw3
      obtain rfl : G = false := by rw [← HG.out]; exact nmB_bad (List.mem_of_getElem? hat) hpe
      clear hat hpe
      go_wp2_with (go_at_call 22; refine (HP.out _).mono ?_; rintro e w5 ⟨rfl, h5⟩; obtain rfl := h5.symm; simp only [])
      go_ret
      exact ⟨rfl, rfl⟩
    by_cases hw4 : 65 ≤ c.toNat
    case pos =>
      have q1 : decide ((97 : Int) ≤ (c.toNat : Int)) = false := decide_eq_false (by omega)
      have q2 : decide ((c.toNat : Int) ≤ 122) = true := decide_eq_true (by omega)
      have q3 : decide ((65 : Int) ≤ (c.toNat : Int)) = true := decide_eq_true (by omega)
      have q4 : decide ((c.toNat : Int) ≤ 90) = true := decide_eq_true (by omega)
      rw [decide_eq_false (show ¬ (48 ≤ c.toNat ∧ c.toNat ≤ 57) by omega)] at hpe HP
      rw [decide_eq_false (show ¬ (c.toNat = 95) by omega)] at f95 hpe
      rw [decide_eq_false (show ¬ (c.toNat = 46) by omega)] at f46 hpe
      rw [decide_eq_false (show ¬ (c.toNat = 45) by omega)] at f45 hpe
      rw [decide_eq_true (show ((65 ≤ c.toNat ∧ c.toNat ≤ 90) ∨ (97 ≤ c.toNat ∧ c.toNat ≤ 122)) by omega)] at hpe
      simp only [Bool.true_or, Bool.or_true, Bool.or_false, Bool.false_or] at hpe
      clear hw0
      clear hw1
      clear hw2
      clear hw3
      clear hw4
      have HN : Hid (∀ c ∈ s.data.toList.take (k + 1), isPart c = true) := fun d hd => by
        rw [List.take_add_one, hat] at hd
        rcases List.mem_append.1 hd with hd | hd
        · exact HA.out d hd
        · simp at hd; rw [hd]; exact hpe
      clear hat hpe
      go_wp2_with (go_at_call 22; refine (HP.out _).mono ?_; rintro e w5 ⟨rfl, h5⟩; obtain rfl := h5.symm; simp only [])
      go_roundw
      case measure => simp [intOf]; omega
      case rel => exact ⟨k + 1, by omega, by go_num, by simp, HN.out⟩
    by_cases hw5 : 48 ≤ c.toNat ∧ c.toNat ≤ 57
    case pos =>
      have q1 : decide ((97 : Int) ≤ (c.toNat : Int)) = false := decide_eq_false (by omega)
      have q2 : decide ((c.toNat : Int) ≤ 122) = true := decide_eq_true (by omega)
      have q3 : decide ((65 : Int) ≤ (c.toNat : Int)) = false := decide_eq_false (by omega)
      have q4 : decide ((c.toNat : Int) ≤ 90) = true := decide_eq_true (by omega)
      rw [decide_eq_true (show (48 ≤ c.toNat ∧ c.toNat ≤ 57) by omega)] at hpe HP
      rw [decide_eq_false (show ¬ (c.toNat = 95) by omega)] at f95 hpe
      rw [decide_eq_false (show ¬ (c.toNat = 46) by omega)] at f46 hpe
      rw [decide_eq_false (show ¬ (c.toNat = 45) by omega)] at f45 hpe
      rw [decide_eq_false (show ¬ ((65 ≤ c.toNat ∧ c.toNat ≤ 90) ∨ (97 ≤ c.toNat ∧ c.toNat ≤ 122)) by omega)] at hpe
      simp only [Bool.true_or, Bool.or_true, Bool.or_false, Bool.false_or] at hpe
      clear hw0
      clear hw1
      clear hw2
      clear hw3
      clear hw4
      clear hw5
      have HN : Hid (∀ c ∈ s.data.toList.take (k + 1), isPart c = true) := fun d hd => by
        rw [List.take_add_one, hat] at hd
        rcases List.mem_append.1 hd with hd | hd
        · exact HA.out d hd
        · simp at hd; rw [hd]; exact hpe
      clear hat hpe
      go_wp2_with (go_at_call 22; refine (HP.out _).mono ?_; rintro e w5 ⟨rfl, h5⟩; obtain rfl := h5.symm; simp only [])
      go_roundw
      case measure => simp [intOf]; omega
      case rel => exact ⟨k + 1, by omega, by go_num, by simp, HN.out⟩
    by_cases hw6 : c.toNat = 46
    case pos =>
      have q1 : decide ((97 : Int) ≤ (c.toNat : Int)) = false := decide_eq_false (by omega)
      have q2 : decide ((c.toNat : Int) ≤ 122) = true := decide_eq_true (by omega)
      have q3 : decide ((65 : Int) ≤ (c.toNat : Int)) = false := decide_eq_false (by omega)
      have q4 : decide ((c.toNat : Int) ≤ 90) = true := decide_eq_true (by omega)
      rw [decide_eq_false (show ¬ (48 ≤ c.toNat ∧ c.toNat ≤ 57) by omega)] at hpe HP
      rw [decide_eq_false (show ¬ (c.toNat = 95) by omega)] at f95 hpe
      rw [decide_eq_true (show (c.toNat = 46) by omega)] at f46 hpe
      rw [decide_eq_false (show ¬ (c.toNat = 45) by omega)] at f45 hpe
      rw [decide_eq_false (show ¬ ((65 ≤ c.toNat ∧ c.toNat ≤ 90) ∨ (97 ≤ c.toNat ∧ c.toNat ≤ 122)) by omega)] at hpe
      simp only [Bool.true_or, Bool.or_true, Bool.or_false, Bool.false_or] at hpe
      clear hw0
      clear hw1
      clear hw2
      clear hw3
      clear hw4
      clear hw5
      clear hw6
      have HN : Hid (∀ c ∈ s.data.toList.take (k + 1), isPart c = true) := fun d hd => by
        rw [List.take_add_one, hat] at hd
        rcases List.mem_append.1 hd with hd | hd
        · exact HA.out d hd
        · simp at hd; rw [hd]; exact hpe
      clear hat hpe
      go_wp2_with (go_at_call 22; refine (HP.out _).mono ?_; rintro e w5 ⟨rfl, h5⟩; obtain rfl := h5.symm; simp only [])
      go_roundw
      case measure => simp [intOf]; omega
      case rel => exact ⟨k + 1, by omega, by go_num, by simp, HN.out⟩
    by_cases hw7 : c.toNat = 45
    case pos =>
      have q1 : decide ((97 : Int) ≤ (c.toNat : Int)) = false := decide_eq_false (by omega)
      have q2 : decide ((c.toNat : Int) ≤ 122) = true := decide_eq_true (by omega)
      have q3 : decide ((65 : Int) ≤ (c.toNat : Int)) = false := decide_eq_false (by omega)
      have q4 : decide ((c.toNat : Int) ≤ 90) = true := decide_eq_true (by omega)
      rw [decide_eq_false (show ¬ (48 ≤ c.toNat ∧ c.toNat ≤ 57) by omega)] at hpe HP
      rw [decide_eq_false (show ¬ (c.toNat = 95) by omega)] at f95 hpe
      rw [decide_eq_false (show ¬ (c.toNat = 46) by omega)] at f46 hpe
      rw [decide_eq_true (show (c.toNat = 45) by omega)] at f45 hpe
      rw [decide_eq_false (show ¬ ((65 ≤ c.toNat ∧ c.toNat ≤ 90) ∨ (97 ≤ c.toNat ∧ c.toNat ≤ 122)) by omega)] at hpe
      simp only [Bool.true_or, Bool.or_true, Bool.or_false, Bool.false_or] at hpe
      clear hw0
      clear hw1
      clear hw2
      clear hw3
      clear hw4
      clear hw5
      clear hw6
      clear hw7
      have HN : Hid (∀ c ∈ s.data.toList.take (k + 1), isPart c = true) := fun d hd => by
        rw [List.take_add_one, hat] at hd
        rcases List.mem_append.1 hd with hd | hd
        · exact HA.out d hd
        · simp at hd; rw [hd]; exact hpe
      clear hat hpe
      go_wp2_with (go_at_call 22; refine (HP.out _).mono ?_; rintro e w5 ⟨rfl, h5⟩; obtain rfl := h5.symm; simp only [])
      go_roundw
      case measure => simp [intOf]; omega
      case rel => exact ⟨k + 1, by omega, by go_num, by simp, HN.out⟩
    have q1 : decide ((97 : Int) ≤ (c.toNat : Int)) = false := decide_eq_false (by omega)
    have q2 : decide ((c.toNat : Int) ≤ 122) = true := decide_eq_true (by omega)
    have q3 : decide ((65 : Int) ≤ (c.toNat : Int)) = false := decide_eq_false (by omega)
    have q4 : decide ((c.toNat : Int) ≤ 90) = true := decide_eq_true (by omega)
    rw [decide_eq_false (show ¬ (48 ≤ c.toNat ∧ c.toNat ≤ 57) by omega)] at hpe HP
    rw [decide_eq_false (show ¬ (c.toNat = 95) by omega)] at f95 hpe
    rw [decide_eq_false (show ¬ (c.toNat = 46) by omega)] at f46 hpe
    rw [decide_eq_false (show ¬ (c.toNat = 45) by omega)] at f45 hpe
    rw [decide_eq_false (show ¬ ((65 ≤ c.toNat ∧ c.toNat ≤ 90) ∨ (97 ≤ c.toNat ∧ c.toNat ≤ 122)) by omega)] at hpe
    simp only [Bool.true_or, Bool.or_true, Bool.or_false, Bool.false_or] at hpe
    clear hw0
    clear hw1
    clear hw2
    clear hw3
    clear hw4
    clear hw5
    clear hw6
    clear hw7
    obtain rfl : G = false := by rw [← HG.out]; exact nmB_bad (List.mem_of_getElem? hat) hpe
    clear hat hpe
    go_wp2_with (go_at_call 22; refine (HP.out _).mono ?_; rintro e w5 ⟨rfl, h5⟩; obtain rfl := h5.symm; simp only [])
    go_ret
    exact ⟨rfl, rfl⟩
set_option maxRecDepth 100000 in
set_option maxHeartbeats 4000000 in
theorem names_walk (s : ByteArray) (W : World) (hs : s.size ≤ maxLen) (hmm : ∃ m, W.cell? ⟨0, 0, none⟩ = some (.int .i64 m)) :
    Calls Tryd.prog 3 #[.string s] W fun e w' => e = .returned (.bool true) ∧ Below W.heap.size W w' := by
  have HA := Lib.hid (alive_any W hmm)
  have hs2 : s.size ≤ 9223372036854775807 := by unfold maxLen at hs; omega
  clear hmm
  by_cases h2 : 200 < s.size
  · have hd : decide ((200 : Int) < (s.size : Int)) = true := decide_eq_true (by omega)
    go_enter Tryd.func3, Tryd.ntmps3
    go_wp2_with (go_at_call 11; refine HA.out.mono ?_; rintro e w5 ⟨rfl, h5⟩; have HB := Lib.hid h5; clear h5; simp only [])
    go_ret
    exact ⟨rfl, HB.out⟩
  have hd : decide ((200 : Int) < (s.size : Int)) = false := decide_eq_false (by omega)
  have HN := Lib.hid (fun w => Name_any s w hs2)
  have HR := Lib.hid (fun w => RefName_any s w (by omega))
  obtain ⟨b, hb⟩ : ∃ b, nmB s.data.toList = b := ⟨_, rfl⟩
  rw [hb] at HN HR
  clear hb
  cases b
  all_goals
    go_enter Tryd.func3, Tryd.ntmps3
    go_wp2_with (first
      | (go_at_call 11; refine HA.out.mono ?_; rintro e w5 ⟨rfl, h5⟩; have HB := Lib.hid h5; clear h5; simp only [])
      | (go_at_call 12; refine (HN.out _).mono ?_; rintro e w5 ⟨rfl, h5⟩; obtain rfl := h5.symm; simp only [])
      | (go_at_call 13; refine (HR.out _).mono ?_; rintro e w5 ⟨rfl, h5⟩; obtain rfl := h5.symm; simp only []))
    go_ret
    exact ⟨rfl, HB.out⟩
end Go.Proofs.YthbemfpoanmjcaaDoor
