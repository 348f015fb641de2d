import Derived.Test.YtkdacdbmlgffgaaB
import Derived.Handy
import Derived.IntWalk
import Derived.Lib.Strings
namespace Go.Proofs.Ytkdacdbmlgffgaa
open Go.RowKit
set_option linter.unusedVariables false
def isDig (c : UInt8) : Bool := decide (48 ≤ c.toNat ∧ c.toNat ≤ 57)
def isLet (c : UInt8) : Bool := decide ((65 ≤ c.toNat ∧ c.toNat ≤ 90) ∨ (97 ≤ c.toNat ∧ c.toNat ≤ 122) ∨ c.toNat = 95)
/-- How long a name stands ahead. -/
def nmL : Bs → Nat
  | [] => 0
  | c :: t => if isLet c then 1 + (t.takeWhile fun c => isLet c || isDig c).length else 0
theorem isDig_int (c : UInt8) : isDig c = (decide ((48 : Int) ≤ (c.toNat : Int)) && decide ((c.toNat : Int) ≤ 57)) := by
  unfold isDig
  rw [Bool.eq_iff_iff, Bool.and_eq_true, decide_eq_true_iff, decide_eq_true_iff, decide_eq_true_iff]; omega
/-- A letter. -/
def isLtr (c : UInt8) : Bool := decide ((65 ≤ c.toNat ∧ c.toNat ≤ 90) ∨ (97 ≤ c.toNat ∧ c.toNat ≤ 122))
theorem isLet_eq (c : UInt8) : isLet c = (isLtr c || ((c.toNat : Int) == 95)) := by
  unfold isLet isLtr
  rw [Bool.eq_iff_iff, Bool.or_eq_true, decide_eq_true_iff, decide_eq_true_iff, beq_iff_eq]; omega
theorem low_all : ∀ n : Fin 256, (decide ((97 : Int) ≤ bits .or .u8 (n.val : Int) 32) && decide (bits .or .u8 (n.val : Int) 32 ≤ 122)) = decide ((65 ≤ n.val ∧ n.val ≤ 90) ∨ (97 ≤ n.val ∧ n.val ≤ 122)) := by decide +kernel
theorem isLtr_int (c : UInt8) : isLtr c = (decide ((97 : Int) ≤ bits .or .u8 (c.toNat : Int) 32) && decide (bits .or .u8 (c.toNat : Int) 32 ≤ 122)) := (low_all ⟨c.toNat, c.toNat_lt⟩).symm
set_option maxHeartbeats 400000 in
theorem Digit_any (c : UInt8) (w : World) : Calls Try.prog 35 #[.int .u8 c.toNat] w fun e w' => e = .returned (.bool (isDig c)) ∧ w' = w := by
  rw [isDig_int]
  obtain ⟨b1, h1⟩ : ∃ b, decide ((48 : Int) ≤ (c.toNat : Int)) = b := ⟨_, rfl⟩
  obtain ⟨b2, h2⟩ : ∃ b, decide ((c.toNat : Int) ≤ 57) = b := ⟨_, rfl⟩
  rw [h1, h2]
  cases b1 <;> cases b2
  all_goals
    go_enter Try.func35, Try.ntmps35
    go_wp2_with fail
    go_ret
    exact ⟨rfl, rfl⟩
set_option maxHeartbeats 400000 in
theorem RefDigit_any (c : UInt8) (w : World) : Calls Try.prog 37 #[.int .u8 c.toNat] w fun e w' => e = .returned (.bool (isDig c)) ∧ w' = w := by
  rw [isDig_int]
  obtain ⟨b1, h1⟩ : ∃ b, decide ((48 : Int) ≤ (c.toNat : Int)) = b := ⟨_, rfl⟩
  obtain ⟨b2, h2⟩ : ∃ b, decide ((c.toNat : Int) ≤ 57) = b := ⟨_, rfl⟩
  rw [h1, h2]
  cases b1 <;> cases b2
  all_goals
    go_enter Try.func37, Try.ntmps37
    go_wp2_with fail
    go_ret
    exact ⟨rfl, rfl⟩
set_option maxHeartbeats 400000 in
theorem Letter_any (c : UInt8) (w : World) : Calls Try.prog 34 #[.int .u8 c.toNat] w fun e w' => e = .returned (.bool (isLtr c)) ∧ w' = w := by
  rw [isLtr_int]
  obtain ⟨m, hm⟩ : ∃ m, bits .or .u8 (c.toNat : Int) 32 = m := ⟨_, rfl⟩
  rw [hm]
  obtain ⟨b1, h1⟩ : ∃ b, decide ((97 : Int) ≤ m) = b := ⟨_, rfl⟩
  obtain ⟨b2, h2⟩ : ∃ b, decide (m ≤ 122) = b := ⟨_, rfl⟩
  rw [h1, h2]
  cases b1 <;> cases b2
  all_goals
    go_enter Try.func34, Try.ntmps34
    go_wp2_with fail
    go_ret
    exact ⟨rfl, rfl⟩
theorem isLet_int (c : UInt8) : isLet c = (decide ((97 : Int) ≤ (c.toNat : Int)) && decide ((c.toNat : Int) ≤ 122) || decide ((65 : Int) ≤ (c.toNat : Int)) && decide ((c.toNat : Int) ≤ 90) || ((c.toNat : Int) == 95)) := by
  unfold isLet
  rw [Bool.eq_iff_iff, Bool.or_eq_true, Bool.or_eq_true, Bool.and_eq_true, Bool.and_eq_true, decide_eq_true_iff, decide_eq_true_iff, decide_eq_true_iff, decide_eq_true_iff, decide_eq_true_iff, beq_iff_eq]; omega
set_option maxHeartbeats 1000000 in
theorem letter_any (c : UInt8) (w : World) : Calls Try.prog 36 #[.int .u8 c.toNat] w fun e w' => e = .returned (.bool (isLet c)) ∧ w' = w := by
  rw [isLet_int]
  obtain ⟨b1, h1⟩ : ∃ b, decide ((97 : Int) ≤ (c.toNat : Int)) = b := ⟨_, rfl⟩
  obtain ⟨b2, h2⟩ : ∃ b, decide ((c.toNat : Int) ≤ 122) = b := ⟨_, rfl⟩
  obtain ⟨b3, h3⟩ : ∃ b, decide ((65 : Int) ≤ (c.toNat : Int)) = b := ⟨_, rfl⟩
  obtain ⟨b4, h4⟩ : ∃ b, decide ((c.toNat : Int) ≤ 90) = b := ⟨_, rfl⟩
  obtain ⟨b5, h5⟩ : ∃ b, ((c.toNat : Int) == 95) = b := ⟨_, rfl⟩
  rw [h1, h2, h3, h4, h5]
  cases b1 <;> cases b2 <;> cases b3 <;> cases b4
  all_goals
    go_enter Try.func36, Try.ntmps36
    go_wp2_with fail
    go_ret
    exact ⟨rfl, rfl⟩
def gb (s : ByteArray) (i : Nat) : UInt8 := s.data.toList.getD i 0
theorem dlen (s : ByteArray) : s.data.toList.length = s.size := Array.length_toList
theorem gb_eq (s : ByteArray) (i : Nat) (h : i < s.size) : s[i] = gb s i := by
  unfold gb
  rw [List.getD_eq_getElem?_getD, List.getElem?_eq_getElem (by simpa using h)]
  rfl
theorem gb_at {s : ByteArray} {i : Nat} (h : i < s.size) : s.data.toList[i]? = some (gb s i) := by
  unfold gb
  rw [List.getD_eq_getElem?_getD, List.getElem?_eq_getElem (by simpa using h)]
  rfl
/-- How far a loop over the first bytes of a kind goes. -/
theorem tw_at {p : UInt8 → Bool} {l : Bs} {k : Nat} (h1 : ∀ c ∈ l.take k, p c = true) (h2 : k = l.length ∨ ∃ c, l[k]? = some c ∧ p c = false) : (l.takeWhile p).length = k := by
  induction l generalizing k with
  | nil =>
    rcases h2 with h2 | ⟨c, h2, _⟩
    · simpa using h2.symm
    · simp at h2
  | cons a t ih =>
    cases k with
    | zero =>
      rcases h2 with h2 | ⟨c, h2, h3⟩
      · simp at h2
      · simp at h2; subst h2; rw [List.takeWhile_cons, h3]; rfl
    | succ k =>
      have ha : p a = true := h1 a (by simp)
      rw [List.takeWhile_cons, ha, if_pos rfl, List.length_cons, ih]
      · intro c hc; exact h1 c (by simp [hc])
      · rcases h2 with h2 | ⟨c, h2, h3⟩
        · left; simpa using h2
        · right; exact ⟨c, by simpa using h2, h3⟩
/-- A byte of a name, ahead or behind. -/
def nmB (first : Bool) (c : UInt8) : Bool := isLet c || (!first && isDig c)
theorem nm_at {l : Bs} {k : Nat} (h1 : ∀ j c, j < k → l[j]? = some c → nmB (decide (j = 0)) c = true) (hk : k ≤ l.length) (h2 : k = l.length ∨ ∃ c, l[k]? = some c ∧ nmB (decide (k = 0)) c = false) : nmL l = k := by
  cases l with
  | nil => simp at hk; subst hk; rfl
  | cons a t =>
    simp only [nmL]
    by_cases ha : isLet a = true
    · rw [if_pos ha]
      have hk0 : k ≠ 0 := by
        rintro rfl
        rcases h2 with h2 | ⟨c, h2, h3⟩
        · simp at h2
        · simp at h2; subst h2; simp [nmB, ha] at h3
      obtain ⟨m, rfl⟩ : ∃ m, k = m + 1 := ⟨k - 1, by omega⟩
      rw [tw_at (k := m), Nat.add_comm]
      · intro c hc
        obtain ⟨j, hj, e⟩ := List.getElem_of_mem hc
        rw [List.length_take] at hj
        rw [List.getElem_take] at e
        have := h1 (j + 1) c (by omega) (by rw [List.getElem?_cons_succ, List.getElem?_eq_getElem (by omega), e])
        simpa [nmB] using this
      · rcases h2 with h2 | ⟨c, h2, h3⟩
        · left; simp at h2; omega
        · right; refine ⟨c, by simpa using h2, ?_⟩; simpa [nmB] using h3
    · rw [if_neg ha]
      cases k with
      | zero => rfl
      | succ k =>
        have := h1 0 a (by omega) (by simp)
        simp [nmB] at this
        exact absurd this ha
theorem nm_snoc {l : Bs} {k : Nat} {c : UInt8} (h1 : ∀ j c, j < k → l[j]? = some c → nmB (decide (j = 0)) c = true) (h2 : l[k]? = some c) (h3 : nmB (decide (k = 0)) c = true) : ∀ j c, j < k + 1 → l[j]? = some c → nmB (decide (j = 0)) c = true := by
  intro j d hj hd
  by_cases h : j = k
  · subst h; rw [h2] at hd; cases hd; exact h3
  · exact h1 j d (by omega) hd
set_option maxRecDepth 100000 in
set_option maxHeartbeats 2000000 in
theorem Name_any (s : ByteArray) (w : World) (hs : s.size ≤ 9223372036854775807) : Calls Try.prog 27 #[.string s] w fun e w' => e = .returned (.int .i64 (nmL s.data.toList : Nat)) ∧ w' = w := by
  have hl := dlen s
  obtain ⟨R, hR⟩ : ∃ R, nmL s.data.toList = R := ⟨_, rfl⟩
  rw [hR]
  have HR := Lib.hid hR
  have HL := Lib.hid hl
  clear hR hl
  go_enter Try.func27, Try.ntmps27
  go_wp2_with fail
  go_loop [3] (fun n => ∃ k : Nat, k ≤ s.size ∧ n = .int .i64 k ∧ ∀ j c, j < k → s.data.toList[j]? = some c → nmB (decide (j = 0)) c = true) (fun n => s.size - (intOf n).toNat)
  case atStart => exact ⟨0, by omega, rfl, by intro j c hc; omega⟩
  case round =>
    obtain ⟨k, hk, rfl, hall⟩ := hrel
    have HALL := Lib.hid hall
    clear hall
    by_cases hlt : k < s.size
    · have hltI : (k : Int) < (s.size : Int) := by omega
      have hgb := gb_eq s k hlt
      have HAT := Lib.hid (gb_at hlt)
      obtain ⟨c, hc⟩ : ∃ c, gb s k = c := ⟨_, rfl⟩
      rw [hc] at hgb HAT
      have HD := Lib.hid (fun w => Digit_any c w)
      have HLt := Lib.hid (fun w => Letter_any c w)
      have HEq := Lib.hid (isLet_eq c)
      obtain ⟨b, hb⟩ : ∃ b, isDig c = b := ⟨_, rfl⟩
      obtain ⟨b1, hb1⟩ : ∃ b, isLtr c = b := ⟨_, rfl⟩
      obtain ⟨b2, hb2⟩ : ∃ b, ((c.toNat : Int) == 95) = b := ⟨_, rfl⟩
      rw [hb] at HD
      rw [hb1] at HLt
      rw [hb1, hb2] at HEq
      have HB := Lib.hid hb
      obtain ⟨z, hz⟩ : ∃ z, decide (k = 0) = z := ⟨_, rfl⟩
      have HZ := Lib.hid hz
      have hk0 : decide ((0 : Int) < (k : Int)) = !z := by rw [← hz]; by_cases h : k = 0 <;> simp [h]; omega
      have hk0' : decide (0 < k) = !z := by rw [← hz]; by_cases h : k = 0 <;> simp [h]; omega
      have HV : Hid (nmB (decide (k = 0)) c = (b1 || b2 || (!z && b))) := by rw [Hid, nmB, HEq.out, HB.out, hz]
      clear hb hb1 hc hz
      cases b1 <;> cases b2 <;> cases z <;> cases b
      all_goals
        go_wp2_with (first | (go_at_call 34; refine (HLt.out _).mono ?_; rintro e w' ⟨rfl, h⟩; obtain rfl := h.symm) | (go_at_call 35; refine (HD.out _).mono ?_; rintro e w' ⟨rfl, h⟩; obtain rfl := h.symm))
        first
          | (have HE : Hid (k = R) := by rw [Hid, ← HR.out]; exact (nm_at HALL.out (by rw [HL.out]; omega) (.inr ⟨c, HAT.out, HV.out⟩)).symm
             go_ret
             exact ⟨by rw [← HE.out]; rfl, rfl⟩)
          | exact ⟨⟨k + 1, by omega, by go_num, nm_snoc HALL.out HAT.out HV.out⟩, by simp [intOf]; omega⟩
    · have hltI : ¬ (k : Int) < (s.size : Int) := by omega
      have HE : Hid (k = R) := by rw [Hid, ← HR.out]; exact (nm_at HALL.out (by rw [HL.out]; omega) (.inl (by rw [HL.out]; omega))).symm
      go_wp2_with fail
      go_ret
      exact ⟨by rw [← HE.out]; rfl, rfl⟩
set_option maxRecDepth 100000 in
set_option maxHeartbeats 2000000 in
theorem RefNameLen_any (s : ByteArray) (p : Nat) (w : World) (hs : s.size ≤ 4611686018427387903) (hp : p ≤ s.size) : Calls Try.prog 28 #[.string s, .int .i64 p] w fun e w' => e = .returned (.int .i64 (nmL (s.data.toList.drop p) : Nat)) ∧ w' = w := by
  have hl := dlen s
  obtain ⟨R, hR⟩ : ∃ R, nmL (s.data.toList.drop p) = R := ⟨_, rfl⟩
  rw [hR]
  have HR := Lib.hid hR
  have HL := Lib.hid hl
  clear hR hl
  go_enter Try.func28, Try.ntmps28
  go_wp2_with fail
  go_loop [5] (fun n => ∃ k : Nat, p + k ≤ s.size ∧ n = .int .i64 k ∧ ∀ j c, j < k → (s.data.toList.drop p)[j]? = some c → nmB (decide (j = 0)) c = true) (fun n => s.size - (intOf n).toNat)
  case atStart => exact ⟨0, by omega, rfl, by intro j c hc; omega⟩
  case round =>
    obtain ⟨k, hk, rfl, hall⟩ := hrel
    have HALL := Lib.hid hall
    clear hall
    have hp0 : (0 : Int) ≤ (p : Int) + (k : Int) := by omega
    have hpm : (p : Int) + (k : Int) ≤ 4611686018427387903 := by omega
    by_cases hlt : p + k < s.size
    · have hltI : (p : Int) + (k : Int) < (s.size : Int) := by omega
      have hgb := gb_eq s (p + k) hlt
      have hat : (s.data.toList.drop p)[k]? = some (gb s (p + k)) := by rw [List.getElem?_drop]; exact gb_at hlt
      have HAT := Lib.hid hat
      obtain ⟨c, hc⟩ : ∃ c, gb s (p + k) = c := ⟨_, rfl⟩
      rw [hc] at hgb HAT
      have HD := Lib.hid (fun w => RefDigit_any c w)
      have HLt := Lib.hid (fun w => letter_any c w)
      obtain ⟨b, hb⟩ : ∃ b, isDig c = b := ⟨_, rfl⟩
      obtain ⟨b1, hb1⟩ : ∃ b, isLet c = b := ⟨_, rfl⟩
      rw [hb] at HD
      rw [hb1] at HLt
      obtain ⟨z, hz⟩ : ∃ z, decide (k = 0) = z := ⟨_, rfl⟩
      have hk0 : decide ((0 : Int) < (k : Int)) = !z := by rw [← hz]; by_cases h : k = 0 <;> simp [h]; omega
      have hk0' : decide (0 < k) = !z := by rw [← hz]; by_cases h : k = 0 <;> simp [h]; omega
      have HV : Hid (nmB (decide (k = 0)) c = (b1 || (!z && b))) := by rw [Hid, nmB, hb, hb1, hz]
      clear hb hb1 hc hz hat
      cases b1 <;> cases z <;> cases b
      all_goals
        go_wp2_with (first | (go_at_call 36; refine (HLt.out _).mono ?_; rintro e w' ⟨rfl, h⟩; obtain rfl := h.symm) | (go_at_call 37; refine (HD.out _).mono ?_; rintro e w' ⟨rfl, h⟩; obtain rfl := h.symm))
        first
          | (have HE : Hid (k = R) := by rw [Hid, ← HR.out]; exact (nm_at HALL.out (by rw [List.length_drop, HL.out]; omega) (.inr ⟨c, HAT.out, HV.out⟩)).symm
             go_ret
             exact ⟨by rw [← HE.out]; rfl, rfl⟩)
          | exact ⟨⟨k + 1, by omega, by go_num, nm_snoc HALL.out HAT.out HV.out⟩, by simp [intOf]; omega⟩
    · have hltI : ¬ (p : Int) + (k : Int) < (s.size : Int) := by omega
      have HE : Hid (k = R) := by rw [Hid, ← HR.out]; exact (nm_at HALL.out (by rw [List.length_drop, HL.out]; omega) (.inl (by rw [List.length_drop, HL.out]; omega))).symm
      go_wp2_with fail
      go_ret
      exact ⟨by rw [← HE.out]; rfl, rfl⟩

/-- A name that may be set. -/
def okName (s : ByteArray) : Bool := decide (s.data.toList ≠ [] ∧ s.size ≤ 60 ∧ nmL s.data.toList = s.size)
set_option maxHeartbeats 400000 in
theorem VName_any (s : ByteArray) (w : World) (hs : s.size ≤ 9223372036854775807) : Calls Try.prog 14 #[.string s] w fun e w' => e = .returned (.bool (okName s)) ∧ w' = w := by
  have HN := Lib.hid (fun w => Name_any s w (by omega))
  obtain ⟨n, hn⟩ : ∃ n, nmL s.data.toList = n := ⟨_, rfl⟩
  rw [hn] at HN
  by_cases h0 : s.data.toList = []
  · have HR : Hid (okName s = false) := by rw [Hid, okName]; simp [h0]
    have h1 : s.toList = [] := by rw [Lib.toList_data]; exact h0
    have h2 : (!s.toList.isEmpty) = false := by rw [h1]; rfl
    clear h0 hn
    go_enter Try.func14, Try.ntmps14
    go_wp2_with (go_at_call 27; refine (HN.out _).mono ?_; rintro e w' ⟨rfl, h⟩; obtain rfl := h.symm)
    go_ret
    exact ⟨by rw [HR.out]; rfl, rfl⟩
  · have h1 : (!s.toList.isEmpty) = true := by
      rw [Lib.toList_data]
      cases h : s.data.toList with
      | nil => exact absurd h h0
      | cons a t => rfl
    by_cases h6 : s.size ≤ 60
    · have h6' : (s.size : Int) ≤ 60 := by omega
      obtain ⟨b, hb⟩ : ∃ b, decide (n = s.size) = b := ⟨_, rfl⟩
      have hb' : ((n : Int) == (s.size : Int)) = b := by rw [← hb, Bool.eq_iff_iff, beq_iff_eq, decide_eq_true_iff]; omega
      have HR : Hid (okName s = b) := by rw [Hid, okName, hn, ← hb]; simp [h0, h6]
      clear hb h0 hn
      go_enter Try.func14, Try.ntmps14
      go_wp2_with (go_at_call 27; refine (HN.out _).mono ?_; rintro e w' ⟨rfl, h⟩; obtain rfl := h.symm)
      go_ret
      exact ⟨by rw [HR.out]; rfl, rfl⟩
    · have h6' : decide ((s.size : Int) ≤ 60) = false := decide_eq_false (by omega)
      have HR : Hid (okName s = false) := by rw [Hid, okName]; simp [h6]
      clear h0 hn h6
      go_enter Try.func14, Try.ntmps14
      go_wp2_with (go_at_call 27; refine (HN.out _).mono ?_; rintro e w' ⟨rfl, h⟩; obtain rfl := h.symm)
      go_ret
      exact ⟨by rw [HR.out]; rfl, rfl⟩
set_option maxHeartbeats 400000 in
theorem RName_any (s : ByteArray) (w : World) (hs : s.size ≤ 4611686018427387903) : Calls Try.prog 15 #[.string s] w fun e w' => e = .returned (.bool (okName s)) ∧ w' = w := by
  have HN := Lib.hid (fun w => RefNameLen_any s 0 w hs (Nat.zero_le _))
  rw [List.drop_zero] at HN
  obtain ⟨n, hn⟩ : ∃ n, nmL s.data.toList = n := ⟨_, rfl⟩
  rw [hn] at HN
  by_cases h0 : s.data.toList = []
  · have HR : Hid (okName s = false) := by rw [Hid, okName]; simp [h0]
    have h1 : s.toList = [] := by rw [Lib.toList_data]; exact h0
    have h2 : (!s.toList.isEmpty) = false := by rw [h1]; rfl
    clear h0 hn
    go_enter Try.func15, Try.ntmps15
    go_wp2_with (go_at_call 28; refine (HN.out _).mono ?_; rintro e w' ⟨rfl, h⟩; obtain rfl := h.symm)
    go_ret
    exact ⟨by rw [HR.out]; rfl, rfl⟩
  · have h1 : (!s.toList.isEmpty) = true := by
      rw [Lib.toList_data]
      cases h : s.data.toList with
      | nil => exact absurd h h0
      | cons a t => rfl
    by_cases h6 : s.size ≤ 60
    · have h6' : (s.size : Int) ≤ 60 := by omega
      obtain ⟨b, hb⟩ : ∃ b, decide (n = s.size) = b := ⟨_, rfl⟩
      have hb' : ((n : Int) == (s.size : Int)) = b := by rw [← hb, Bool.eq_iff_iff, beq_iff_eq, decide_eq_true_iff]; omega
      have HR : Hid (okName s = b) := by rw [Hid, okName, hn, ← hb]; simp [h0, h6]
      clear hb h0 hn
      go_enter Try.func15, Try.ntmps15
      go_wp2_with (go_at_call 28; refine (HN.out _).mono ?_; rintro e w' ⟨rfl, h⟩; obtain rfl := h.symm)
      go_ret
      exact ⟨by rw [HR.out]; rfl, rfl⟩
    · have h6' : decide ((s.size : Int) ≤ 60) = false := decide_eq_false (by omega)
      have HR : Hid (okName s = false) := by rw [Hid, okName]; simp [h6]
      clear h0 hn h6
      go_enter Try.func15, Try.ntmps15
      go_wp2_with (go_at_call 28; refine (HN.out _).mono ?_; rintro e w' ⟨rfl, h⟩; obtain rfl := h.symm)
      go_ret
      exact ⟨by rw [HR.out]; rfl, rfl⟩
end Go.Proofs.Ytkdacdbmlgffgaa
