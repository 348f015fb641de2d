import Derived.Test.YthgddbdkdloobaaDoorB
namespace Go.Proofs.YthgddbdkdloobaaDoor
open Go.RowKit
set_option linter.unusedVariables false

/-! Strings. -/
def gb (s : ByteArray) (i : Nat) : UInt8 := s.data.toList.getD i 0
theorem dlen (s : ByteArray) : s.data.toList.length = s.size := Array.length_toList
theorem gb_eq (s : ByteArray) (i : Nat) (h : i < s.size) : s[i] = gb s i := by
  unfold gb
  rw [List.getD_eq_getElem?_getD, List.getElem?_eq_getElem (by simpa using h)]
  rfl
theorem gb_at {s : ByteArray} {i : Nat} (h : i < s.size) : s.data.toList[i]? = some (gb s i) := by
  unfold gb
  rw [List.getD_eq_getElem?_getD, List.getElem?_eq_getElem (by simpa using h)]
  rfl
theorem take_gb {s : ByteArray} {k : Nat} (h : k < s.size) : s.data.toList.take (k + 1) = s.data.toList.take k ++ [gb s k] := by
  rw [List.take_add_one, gb_at h]; rfl
theorem drop_gb {s : ByteArray} {k : Nat} (h : k < s.size) : s.data.toList.drop k = gb s k :: s.data.toList.drop (k + 1) := by
  have hl := dlen s
  rw [List.drop_eq_getElem_cons (by omega)]
  have := gb_at h
  rw [List.getElem?_eq_getElem (by omega)] at this
  rw [Option.some.inj this]
theorem bs_ext {s t : ByteArray} (h : s.data.toList = t.data.toList) : s = t := ByteArray.ext (Array.ext' h)
theorem ext_data (s : ByteArray) (i j : Nat) : (s.extract i j).data.toList = (s.data.toList.take j).drop i := by
  rw [← Lib.toList_data, Lib.extract_toList, List.drop_take]
theorem drop_data (s : ByteArray) (k : Nat) : (s.extract k s.size).data.toList = s.data.toList.drop k := by
  rw [ext_data, ← dlen, List.take_length]
theorem take_data (s : ByteArray) (k : Nat) : (s.extract 0 k).data.toList = s.data.toList.take k := by
  rw [ext_data, List.drop_zero]

/-- How far a loop over the first bytes of a kind goes. -/
theorem tw_at {p : UInt8 → Bool} {l : Bs} {k : Nat} (h1 : ∀ c ∈ l.take k, p c = true) (h2 : k = l.length ∨ ∃ c, l[k]? = some c ∧ p c = false) : (l.takeWhile p).length = k := by
  induction l generalizing k with
  | nil =>
    rcases h2 with h2 | ⟨c, h2, _⟩
    · simpa using h2.symm
    · simp at h2
  | cons a t ih =>
    cases k with
    | zero =>
      rcases h2 with h2 | ⟨c, h2, h3⟩
      · simp at h2
      · simp at h2; subst h2; rw [List.takeWhile_cons, h3]; rfl
    | succ k =>
      have ha : p a = true := h1 a (by simp)
      rw [List.takeWhile_cons, ha, if_pos rfl, List.length_cons, ih]
      · intro c hc; exact h1 c (by simp [hc])
      · rcases h2 with h2 | ⟨c, h2, h3⟩
        · left; simpa using h2
        · right; exact ⟨c, by simpa using h2, h3⟩
set_option maxRecDepth 100000 in
set_option maxHeartbeats 1000000 in
theorem Digits_any (s : ByteArray) (w : World) (hs : s.size ≤ 9223372036854775807) : Calls Tryd.prog 47 #[.string s] w fun e w' => e = .returned (.int .i64 (digL s.data.toList : Nat)) ∧ w' = w := by
  have hl := dlen s
  obtain ⟨R, hR⟩ : ∃ R, digL s.data.toList = R := ⟨_, rfl⟩
  rw [hR]
  have HR := Lib.hid hR
  have HL := Lib.hid hl
  clear hR hl
  go_enter Tryd.func47, Tryd.ntmps47
  go_wp2_with fail
  go_loop [3] (fun n => ∃ k : Nat, k ≤ s.size ∧ n = .int .i64 k ∧ ∀ c ∈ s.data.toList.take k, isDig c = true) (fun n => s.size - (intOf n).toNat)
  case atStart => exact ⟨0, by omega, rfl, by intro c hc; simp at hc⟩
  case round =>
    obtain ⟨k, hk, rfl, hall⟩ := hrel
    have HALL := Lib.hid hall
    clear hall
    by_cases hlt : k < s.size
    · have hltI : (k : Int) < (s.size : Int) := by omega
      have hgb := gb_eq s k hlt
      have HT := Lib.hid (take_gb hlt)
      have HAT := Lib.hid (gb_at hlt)
      obtain ⟨c, hc⟩ : ∃ c, gb s k = c := ⟨_, rfl⟩
      rw [hc] at hgb HT HAT
      have HD := Lib.hid (fun w => Digit_any c w)
      obtain ⟨b, hb⟩ : ∃ b, isDig c = b := ⟨_, rfl⟩
      rw [hb] at HD
      have HB := Lib.hid hb
      clear hb hc
      cases b with
      | true =>
        go_wp2_with fail
        refine (HD.out w).mono ?_
        rintro e w' ⟨rfl, h⟩
        obtain rfl := h.symm
        go_wp2_with fail
        exact ⟨⟨k + 1, by omega, by go_num, by
          intro x hx
          rw [HT.out] at hx
          rcases List.mem_append.1 hx with h | h
          · exact HALL.out x h
          · simp at h; rw [h]; exact HB.out⟩, by simp [intOf]; omega⟩
      | false =>
        have HE : Hid (k = R) := by rw [Hid, ← HR.out, digL, tw_at HALL.out (.inr ⟨c, HAT.out, HB.out⟩)]
        go_wp2_with fail
        refine (HD.out w).mono ?_
        rintro e w' ⟨rfl, h⟩
        obtain rfl := h.symm
        go_wp2_with fail
        go_ret
        exact ⟨by rw [← HE.out]; rfl, rfl⟩
    · have hltI : ¬ (k : Int) < (s.size : Int) := by omega
      have HE : Hid (k = R) := by rw [Hid, ← HR.out, digL, tw_at HALL.out (.inl (by rw [HL.out]; omega))]
      go_wp2_with fail
      go_ret
      exact ⟨by rw [← HE.out]; rfl, rfl⟩

/-- A byte of a name, ahead or behind. -/
def nmB (first : Bool) (c : UInt8) : Bool := isLet c || (!first && isDig c)
theorem nm_at {l : Bs} {k : Nat} (h1 : ∀ j c, j < k → l[j]? = some c → nmB (decide (j = 0)) c = true) (hk : k ≤ l.length) (h2 : k = l.length ∨ ∃ c, l[k]? = some c ∧ nmB (decide (k = 0)) c = false) : nmL l = k := by
  cases l with
  | nil => simp at hk; subst hk; rfl
  | cons a t =>
    simp only [nmL]
    by_cases ha : isLet a = true
    · rw [if_pos ha]
      have hk0 : k ≠ 0 := by
        rintro rfl
        rcases h2 with h2 | ⟨c, h2, h3⟩
        · simp at h2
        · simp at h2; subst h2; simp [nmB, ha] at h3
      obtain ⟨m, rfl⟩ : ∃ m, k = m + 1 := ⟨k - 1, by omega⟩
      rw [tw_at (k := m), Nat.add_comm]
      · intro c hc
        obtain ⟨j, hj, e⟩ := List.getElem_of_mem hc
        rw [List.length_take] at hj
        rw [List.getElem_take] at e
        have := h1 (j + 1) c (by omega) (by rw [List.getElem?_cons_succ, List.getElem?_eq_getElem (by omega), e])
        simpa [nmB] using this
      · rcases h2 with h2 | ⟨c, h2, h3⟩
        · left; simp at h2; omega
        · right; refine ⟨c, by simpa using h2, ?_⟩; simpa [nmB] using h3
    · rw [if_neg ha]
      cases k with
      | zero => rfl
      | succ k =>
        have := h1 0 a (by omega) (by simp)
        simp [nmB] at this
        exact absurd this ha
theorem nm_snoc {l : Bs} {k : Nat} {c : UInt8} (h1 : ∀ j c, j < k → l[j]? = some c → nmB (decide (j = 0)) c = true) (h2 : l[k]? = some c) (h3 : nmB (decide (k = 0)) c = true) : ∀ j c, j < k + 1 → l[j]? = some c → nmB (decide (j = 0)) c = true := by
  intro j d hj hd
  by_cases h : j = k
  · subst h; rw [h2] at hd; cases hd; exact h3
  · exact h1 j d (by omega) hd
set_option maxRecDepth 100000 in
set_option maxHeartbeats 2000000 in
theorem Name_any (s : ByteArray) (w : World) (hs : s.size ≤ 9223372036854775807) : Calls Tryd.prog 49 #[.string s] w fun e w' => e = .returned (.int .i64 (nmL s.data.toList : Nat)) ∧ w' = w := by
  have hl := dlen s
  obtain ⟨R, hR⟩ : ∃ R, nmL s.data.toList = R := ⟨_, rfl⟩
  rw [hR]
  have HR := Lib.hid hR
  have HL := Lib.hid hl
  clear hR hl
  go_enter Tryd.func49, Tryd.ntmps49
  go_wp2_with fail
  go_loop [3] (fun n => ∃ k : Nat, k ≤ s.size ∧ n = .int .i64 k ∧ ∀ j c, j < k → s.data.toList[j]? = some c → nmB (decide (j = 0)) c = true) (fun n => s.size - (intOf n).toNat)
  case atStart => exact ⟨0, by omega, rfl, by intro j c hc; omega⟩
  case round =>
    obtain ⟨k, hk, rfl, hall⟩ := hrel
    have HALL := Lib.hid hall
    clear hall
    by_cases hlt : k < s.size
    · have hltI : (k : Int) < (s.size : Int) := by omega
      have hgb := gb_eq s k hlt
      have HAT := Lib.hid (gb_at hlt)
      obtain ⟨c, hc⟩ : ∃ c, gb s k = c := ⟨_, rfl⟩
      rw [hc] at hgb HAT
      have HD := Lib.hid (fun w => Digit_any c w)
      have HLt := Lib.hid (fun w => Letter_any c w)
      have HEq := Lib.hid (isLet_eq c)
      obtain ⟨b, hb⟩ : ∃ b, isDig c = b := ⟨_, rfl⟩
      obtain ⟨b1, hb1⟩ : ∃ b, isLtr c = b := ⟨_, rfl⟩
      obtain ⟨b2, hb2⟩ : ∃ b, ((c.toNat : Int) == 95) = b := ⟨_, rfl⟩
      rw [hb] at HD
      rw [hb1] at HLt
      rw [hb1, hb2] at HEq
      have HB := Lib.hid hb
      obtain ⟨z, hz⟩ : ∃ z, decide (k = 0) = z := ⟨_, rfl⟩
      have HZ := Lib.hid hz
      have hk0 : decide ((0 : Int) < (k : Int)) = !z := by rw [← hz]; by_cases h : k = 0 <;> simp [h]; omega
      have hk0' : decide (0 < k) = !z := by rw [← hz]; by_cases h : k = 0 <;> simp [h]; omega
      have HV : Hid (nmB (decide (k = 0)) c = (b1 || b2 || (!z && b))) := by rw [Hid, nmB, HEq.out, HB.out, hz]
      clear hb hb1 hc hz
      cases b1 <;> cases b2 <;> cases z <;> cases b
      all_goals
        go_wp2_with (first | (go_at_call 57; refine (HLt.out _).mono ?_; rintro e w' ⟨rfl, h⟩; obtain rfl := h.symm) | (go_at_call 56; refine (HD.out _).mono ?_; rintro e w' ⟨rfl, h⟩; obtain rfl := h.symm))
        first
          | (have HE : Hid (k = R) := by rw [Hid, ← HR.out]; exact (nm_at HALL.out (by rw [HL.out]; omega) (.inr ⟨c, HAT.out, HV.out⟩)).symm
             go_ret
             exact ⟨by rw [← HE.out]; rfl, rfl⟩)
          | exact ⟨⟨k + 1, by omega, by go_num, nm_snoc HALL.out HAT.out HV.out⟩, by simp [intOf]; omega⟩
    · have hltI : ¬ (k : Int) < (s.size : Int) := by omega
      have HE : Hid (k = R) := by rw [Hid, ← HR.out]; exact (nm_at HALL.out (by rw [HL.out]; omega) (.inl (by rw [HL.out]; omega))).symm
      go_wp2_with fail
      go_ret
      exact ⟨by rw [← HE.out]; rfl, rfl⟩

/-! Operators by themselves. -/
theorem str_eq {s : ByteArray} {l : Bs} : (s.toList == l) = decide (s.data.toList = l) := by
  rw [Bool.eq_iff_iff, beq_iff_eq, decide_eq_true_iff, Lib.toList_data]
/-- One of those between two, or none. -/
theorem op_cases (op : ByteArray) : op = ⟨#[124, 124]⟩ ∨ op = ⟨#[38, 38]⟩ ∨ op = ⟨#[124]⟩ ∨ op = ⟨#[94]⟩ ∨ op = ⟨#[38]⟩ ∨ op = ⟨#[61, 61]⟩ ∨ op = ⟨#[33, 61]⟩ ∨ op = ⟨#[60]⟩ ∨ op = ⟨#[60, 61]⟩ ∨ op = ⟨#[62]⟩ ∨ op = ⟨#[62, 61]⟩ ∨ op = ⟨#[60, 60]⟩ ∨ op = ⟨#[62, 62]⟩ ∨ op = ⟨#[43]⟩ ∨ op = ⟨#[45]⟩ ∨ op = ⟨#[42]⟩ ∨ op = ⟨#[47]⟩ ∨ op = ⟨#[37]⟩ ∨ (lv op.data.toList = 0 ∧ (op.toList == [124, 124]) = false ∧ (op.toList == [38, 38]) = false ∧ (op.toList == [124]) = false ∧ (op.toList == [94]) = false ∧ (op.toList == [38]) = false ∧ (op.toList == [61, 61]) = false ∧ (op.toList == [33, 61]) = false ∧ (op.toList == [60]) = false ∧ (op.toList == [60, 61]) = false ∧ (op.toList == [62]) = false ∧ (op.toList == [62, 61]) = false ∧ (op.toList == [60, 60]) = false ∧ (op.toList == [62, 62]) = false ∧ (op.toList == [43]) = false ∧ (op.toList == [45]) = false ∧ (op.toList == [42]) = false ∧ (op.toList == [47]) = false ∧ (op.toList == [37]) = false) := by
  by_cases h0 : op.data.toList = [124, 124]
  · exact .inl (bs_ext h0)
  by_cases h1 : op.data.toList = [38, 38]
  · exact .inr (.inl (bs_ext h1))
  by_cases h2 : op.data.toList = [124]
  · exact .inr (.inr (.inl (bs_ext h2)))
  by_cases h3 : op.data.toList = [94]
  · exact .inr (.inr (.inr (.inl (bs_ext h3))))
  by_cases h4 : op.data.toList = [38]
  · exact .inr (.inr (.inr (.inr (.inl (bs_ext h4)))))
  by_cases h5 : op.data.toList = [61, 61]
  · exact .inr (.inr (.inr (.inr (.inr (.inl (bs_ext h5))))))
  by_cases h6 : op.data.toList = [33, 61]
  · exact .inr (.inr (.inr (.inr (.inr (.inr (.inl (bs_ext h6)))))))
  by_cases h7 : op.data.toList = [60]
  · exact .inr (.inr (.inr (.inr (.inr (.inr (.inr (.inl (bs_ext h7))))))))
  by_cases h8 : op.data.toList = [60, 61]
  · exact .inr (.inr (.inr (.inr (.inr (.inr (.inr (.inr (.inl (bs_ext h8)))))))))
  by_cases h9 : op.data.toList = [62]
  · exact .inr (.inr (.inr (.inr (.inr (.inr (.inr (.inr (.inr (.inl (bs_ext h9))))))))))
  by_cases h10 : op.data.toList = [62, 61]
  · exact .inr (.inr (.inr (.inr (.inr (.inr (.inr (.inr (.inr (.inr (.inl (bs_ext h10)))))))))))
  by_cases h11 : op.data.toList = [60, 60]
  · exact .inr (.inr (.inr (.inr (.inr (.inr (.inr (.inr (.inr (.inr (.inr (.inl (bs_ext h11))))))))))))
  by_cases h12 : op.data.toList = [62, 62]
  · exact .inr (.inr (.inr (.inr (.inr (.inr (.inr (.inr (.inr (.inr (.inr (.inr (.inl (bs_ext h12)))))))))))))
  by_cases h13 : op.data.toList = [43]
  · exact .inr (.inr (.inr (.inr (.inr (.inr (.inr (.inr (.inr (.inr (.inr (.inr (.inr (.inl (bs_ext h13))))))))))))))
  by_cases h14 : op.data.toList = [45]
  · exact .inr (.inr (.inr (.inr (.inr (.inr (.inr (.inr (.inr (.inr (.inr (.inr (.inr (.inr (.inl (bs_ext h14)))))))))))))))
  by_cases h15 : op.data.toList = [42]
  · exact .inr (.inr (.inr (.inr (.inr (.inr (.inr (.inr (.inr (.inr (.inr (.inr (.inr (.inr (.inr (.inl (bs_ext h15))))))))))))))))
  by_cases h16 : op.data.toList = [47]
  · exact .inr (.inr (.inr (.inr (.inr (.inr (.inr (.inr (.inr (.inr (.inr (.inr (.inr (.inr (.inr (.inr (.inl (bs_ext h16)))))))))))))))))
  by_cases h17 : op.data.toList = [37]
  · exact .inr (.inr (.inr (.inr (.inr (.inr (.inr (.inr (.inr (.inr (.inr (.inr (.inr (.inr (.inr (.inr (.inr (.inl (bs_ext h17))))))))))))))))))
  exact .inr (.inr (.inr (.inr (.inr (.inr (.inr (.inr (.inr (.inr (.inr (.inr (.inr (.inr (.inr (.inr (.inr (.inr (⟨by simp only [lv, h0, h1, h2, h3, h4, h5, h6, h7, h8, h9, h10, h11, h12, h13, h14, h15, h16, h17, if_false, or_self], by rw [str_eq, decide_eq_false h0], by rw [str_eq, decide_eq_false h1], by rw [str_eq, decide_eq_false h2], by rw [str_eq, decide_eq_false h3], by rw [str_eq, decide_eq_false h4], by rw [str_eq, decide_eq_false h5], by rw [str_eq, decide_eq_false h6], by rw [str_eq, decide_eq_false h7], by rw [str_eq, decide_eq_false h8], by rw [str_eq, decide_eq_false h9], by rw [str_eq, decide_eq_false h10], by rw [str_eq, decide_eq_false h11], by rw [str_eq, decide_eq_false h12], by rw [str_eq, decide_eq_false h13], by rw [str_eq, decide_eq_false h14], by rw [str_eq, decide_eq_false h15], by rw [str_eq, decide_eq_false h16], by rw [str_eq, decide_eq_false h17]⟩))))))))))))))))))
set_option maxRecDepth 100000 in
set_option maxHeartbeats 2000000 in
theorem levelOf_any (op : ByteArray) (w : World) : Calls Tryd.prog 27 #[.string op] w fun e w' => e = .returned (.int .i64 (lv op.data.toList : Nat)) ∧ w' = w := by
  rcases op_cases op with rfl | rfl | rfl | rfl | rfl | rfl | rfl | rfl | rfl | rfl | rfl | rfl | rfl | rfl | rfl | rfl | rfl | rfl | ⟨h0, h1, h2, h3, h4, h5, h6, h7, h8, h9, h10, h11, h12, h13, h14, h15, h16, h17, h18⟩
  case inr.inr.inr.inr.inr.inr.inr.inr.inr.inr.inr.inr.inr.inr.inr.inr.inr.inr =>
    have H0 := Lib.hid h0
    clear h0
    go_enter Tryd.func27, Tryd.ntmps27
    go_wp2_with fail
    go_ret
    exact ⟨by rw [H0.out]; rfl, rfl⟩
  all_goals
    go_enter Tryd.func27, Tryd.ntmps27
    go_wp2_with fail
    go_ret
    exact ⟨rfl, rfl⟩
set_option maxRecDepth 100000 in
set_option maxHeartbeats 2000000 in
theorem level_any (op : ByteArray) (w : World) : Calls Tryd.prog 31 #[.string op] w fun e w' => e = .returned (.int .i64 (lv op.data.toList : Nat)) ∧ w' = w := by
  rcases op_cases op with rfl | rfl | rfl | rfl | rfl | rfl | rfl | rfl | rfl | rfl | rfl | rfl | rfl | rfl | rfl | rfl | rfl | rfl | ⟨h0, h1, h2, h3, h4, h5, h6, h7, h8, h9, h10, h11, h12, h13, h14, h15, h16, h17, h18⟩
  case inr.inr.inr.inr.inr.inr.inr.inr.inr.inr.inr.inr.inr.inr.inr.inr.inr.inr =>
    have H0 := Lib.hid h0
    clear h0
    go_enter Tryd.func31, Tryd.ntmps31
    go_wp2_with fail
    go_ret
    exact ⟨by rw [H0.out]; rfl, rfl⟩
  all_goals
    go_enter Tryd.func31, Tryd.ntmps31
    go_wp2_with fail
    go_ret
    exact ⟨rfl, rfl⟩
end Go.Proofs.YthgddbdkdloobaaDoor
