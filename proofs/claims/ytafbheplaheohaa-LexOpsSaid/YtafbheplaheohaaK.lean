import Derived.Test.YtafbheplaheohaaJ
namespace Go.Proofs.Ytafbheplaheohaa
open Go.RowKit
set_option linter.unusedVariables false

/-- A byte that goes on a name of so many bytes. -/
def goesOn (k : Nat) (c : UInt8) : Bool := isLetter c || c == 95 || (decide (0 < k) && isDigit c)
def NmAt (l : Bz) (k : Nat) : Prop := k = 0 ∨ nameLen l = k + tailLen (l.drop k)
theorem at_drop {l : Bz} {k : Nat} {c : UInt8} (h : l[k]? = some c) : l.drop k = c :: l.drop (k + 1) := by
  have hk : k < l.length := by
    by_cases h2 : k < l.length
    · exact h2
    · rw [List.getElem?_eq_none (by omega)] at h; cases h
  rw [List.drop_eq_getElem_cons hk]
  rw [List.getElem?_eq_getElem hk] at h
  injection h with h
  rw [h]
theorem nm_step {l : Bz} {k : Nat} {c : UInt8} (h : NmAt l k) (hc : l[k]? = some c) (hg : goesOn k c = true) : NmAt l (k + 1) := by
  refine .inr ?_
  have hd := at_drop hc
  rcases h with rfl | h
  · have e : (isLetter c || c == 95) = true := by simpa [goesOn] using hg
    rw [List.drop_zero] at hd
    have : nameLen (c :: l.drop 1) = tailLen (l.drop 1) + 1 := by rw [nameLen, e, if_pos rfl]
    rw [← hd] at this
    show nameLen l = 0 + 1 + tailLen (l.drop 1)
    omega
  · rw [hd] at h
    by_cases k0 : k = 0
    · subst k0
      have e : (isLetter c || c == 95) = true := by simpa [goesOn] using hg
      rw [List.drop_zero] at hd
      have : nameLen (c :: l.drop 1) = tailLen (l.drop 1) + 1 := by rw [nameLen, e, if_pos rfl]
      rw [← hd] at this
      show nameLen l = 0 + 1 + tailLen (l.drop 1)
      omega
    · have e : isWordC c = true := by
        have : decide (0 < k) = true := decide_eq_true (by omega)
        rw [goesOn, this] at hg
        simpa [isWordC] using hg
      rw [tailLen, e, if_pos rfl] at h
      omega
theorem nm_stop {l : Bz} {k : Nat} (h : NmAt l k) (h2 : k = l.length ∨ ∃ c, l[k]? = some c ∧ goesOn k c = false) : nameLen l = k := by
  rcases h2 with rfl | ⟨c, hc, hg⟩
  · rcases h with h | h
    · have : l = [] := List.length_eq_zero_iff.1 h
      rw [this]; rfl
    · rw [List.drop_length] at h; exact h
  · have hd := at_drop hc
    by_cases k0 : k = 0
    · subst k0
      rw [List.drop_zero] at hd
      have e : (isLetter c || c == 95) = false := by simpa [goesOn] using hg
      rw [hd, nameLen, e]; rfl
    · rcases h with h | h
      · exact absurd h k0
      · have e : isWordC c = false := by
          have : decide (0 < k) = true := decide_eq_true (by omega)
          rw [goesOn, this] at hg
          simpa [isWordC] using hg
        rw [hd, tailLen, e] at h
        simpa using h
set_option maxRecDepth 100000 in
set_option maxHeartbeats 4000000 in
theorem Name_any (s : ByteArray) (hs : s.size ≤ 1000000) (w : World) : Calls Try.prog 78 #[.string s] w fun e w' => e = .returned (.int .i64 (nameLen s.data.toList)) ∧ w' = w := by
  have HD := Lib.hid (fun c w => Digit_any c w)
  have HL := Lib.hid (fun c w => Letter_any c w)
  obtain ⟨r, hr⟩ : ∃ r, nameLen s.data.toList = r := ⟨_, rfl⟩
  have HR := Lib.hid hr
  rw [hr]
  clear hr
  go_enter Try.func78, Try.ntmps78
  go_wp2_with fail
  go_loopw [3] (fun n wx => ∃ k : Nat, n = .int .i64 k ∧ k ≤ s.size ∧ wx = w ∧ Hid (NmAt s.data.toList k)) (fun n _ => s.size - (intOf n).toNat)
  case atStart => exact ⟨0, rfl, Nat.zero_le _, rfl, .inl rfl⟩
  case round =>
    obtain ⟨k, rfl, hk, rfl, HK⟩ := hrel
    have hk0 : (0 : Int) ≤ (k : Int) := by omega
    by_cases hlt : k < s.size
    · have hltI : (k : Int) < (s.size : Int) := by omega
      have hltd : decide ((k : Int) < (s.size : Int)) = true := decide_eq_true hltI
      have hat := data_get s k hlt
      obtain ⟨c, hc⟩ : ∃ c, s[k]'hlt = c := ⟨_, rfl⟩
      rw [hc] at hat
      have HAT := Lib.hid hat
      have h95 := byte_eq c 95
      rw [show ((95 : UInt8).toNat : Int) = 95 from rfl] at h95
      obtain ⟨z1, hz1⟩ : ∃ z, isLetter c = z := ⟨_, rfl⟩
      obtain ⟨z2, hz2⟩ : ∃ z, (c == 95) = z := ⟨_, rfl⟩
      obtain ⟨z3, hz3⟩ : ∃ z, decide ((0 : Int) < (k : Int)) = z := ⟨_, rfl⟩
      have hz3' : decide (0 < k) = z3 := by
        rw [← hz3]
        by_cases h : 0 < k
        · rw [decide_eq_true h, decide_eq_true (by omega)]
        · rw [decide_eq_false h, decide_eq_false (by omega)]
      obtain ⟨z4, hz4⟩ : ∃ z, isDigit c = z := ⟨_, rfl⟩
      have HG : Hid (goesOn k c = (z1 || z2 || (z3 && z4))) := by rw [Hid, ← hz1, ← hz2, ← hz3', ← hz4]; rfl
      have HDC := Lib.hid (HD.out c)
      have HLC := Lib.hid (HL.out c)
      rw [hz4] at HDC
      rw [hz1] at HLC
      rw [hz2] at h95
      have hb64 : IntKind.i64.wrap ((k : Int) + 1) = (k : Int) + 1 := IntWalk.i64_in _ (by omega)
      obtain ⟨g, hg⟩ : ∃ g, goesOn k c = g := ⟨_, rfl⟩
      have HGG := Lib.hid hg
      rw [hg] at HG
      clear hat hz1 hz2 hz4 hg
      cases z1 <;> cases z2 <;> cases z3 <;> cases z4
      all_goals
        go_wp2_with (first
          | (go_at_call 84; refine (HLC.out _).mono ?_; rintro e w1 ⟨rfl, h1⟩; obtain rfl := h1.symm; simp only [])
          | (go_at_call 79; refine (HDC.out _).mono ?_; rintro e w1 ⟨rfl, h1⟩; obtain rfl := h1.symm; simp only []))
        first
          | (have HGT : Hid (goesOn k c = true) := by rw [Hid, HGG.out, HG.out]; rfl
             go_roundw
             case measure => simp [intOf]; omega
             case rel => exact ⟨k + 1, by go_num, by omega, trivial, nm_step HK.out HAT.out HGT.out⟩)
          | (have HGF : Hid (goesOn k c = false) := by rw [Hid, HGG.out, HG.out]; rfl
             have HE : Hid (nameLen s.data.toList = k) := nm_stop HK.out (.inr ⟨c, HAT.out, HGF.out⟩)
             go_ret
             exact ⟨by rw [← HR.out, HE.out]; rfl, rfl⟩)
    · have hltd : decide ((k : Int) < (s.size : Int)) = false := decide_eq_false (by omega)
      have HE : Hid (nameLen s.data.toList = k) := nm_stop HK.out (.inl (by rw [dl]; omega))
      go_wp2_with fail
      go_ret
      exact ⟨by rw [← HR.out, HE.out]; rfl, rfl⟩
theorem paramLen_le (l : Bz) : paramLen l ≤ l.length := by
  have hn : ∀ l, tailLen l ≤ l.length := by
    intro l
    induction l with
    | nil => exact Nat.le_refl _
    | cons c r ih => rw [tailLen]; split <;> simp; exact ih
  unfold paramLen
  split
  · cases l with
    | nil => exact Nat.le_refl _
    | cons c r => rw [nameLen]; split <;> simp; exact hn r
  · cases l with
    | nil => exact Nat.le_refl _
    | cons c r => simp only; split <;> simp
theorem paramLen_pos {l : Bz} (h : 0 < nameLen l) : paramLen l = nameLen l := by unfold paramLen; rw [if_pos h]
theorem paramLen_nil : paramLen [] = 0 := rfl
theorem paramLen_cons {c : UInt8} {r : Bz} (h : ¬ 0 < nameLen (c :: r)) : paramLen (c :: r) = if isDigit c || signs.contains c then 1 else 0 := by unfold paramLen; rw [if_neg h]
theorem digitsLen_le (l : Bz) : digitsLen l ≤ l.length := by
  induction l with
  | nil => exact Nat.le_refl _
  | cons c r ih => rw [digitsLen]; split <;> simp; exact ih
theorem longParam_le (l : Bz) : longParam l ≤ l.length := Nat.max_le.2 ⟨paramLen_le l, digitsLen_le l⟩
set_option maxRecDepth 100000 in
set_option maxHeartbeats 4000000 in
theorem paramLen_any (s : ByteArray) (hs : s.size ≤ 1000000) (w : World) : Calls Try.prog 62 #[.string s] w fun e w' => e = .returned (.int .i64 (paramLen s.data.toList)) ∧ w' = w := by
  have HD := Lib.hid (fun c w => Digit_any c w)
  have HN := Lib.hid (fun w => Name_any s hs w)
  obtain ⟨n, hn⟩ : ∃ n, nameLen s.data.toList = n := ⟨_, rfl⟩
  rw [hn] at HN
  obtain ⟨r, hr⟩ : ∃ r, paramLen s.data.toList = r := ⟨_, rfl⟩
  rw [hr]
  by_cases h0 : 0 < n
  · have hd : decide ((0 : Int) < (n : Int)) = true := decide_eq_true (by omega)
    have HR : Hid (r = n) := by rw [Hid, ← hr, paramLen_pos (by rw [hn]; exact h0), hn]
    clear hn hr
    go_enter Try.func62, Try.ntmps62
    go_wp2_with (go_at_call 78; refine (HN.out _).mono ?_; rintro e w1 ⟨rfl, h1⟩; obtain rfl := h1.symm; simp only [])
    go_ret
    rw [HR.out]
    exact ⟨rfl, rfl⟩
  · obtain rfl : n = 0 := by omega
    by_cases he : s.data.toList = []
    · have h2 : s.toList.isEmpty = true := isE_of he
      have HR : Hid (r = 0) := by rw [Hid, ← hr, he]; rfl
      clear hn hr he
      go_enter Try.func62, Try.ntmps62
      go_wp2_with (go_at_call 78; refine (HN.out _).mono ?_; rintro e w1 ⟨rfl, h1⟩; obtain rfl := h1.symm; simp only [])
      go_ret
      rw [HR.out]
      exact ⟨rfl, rfl⟩
    · have h2 : s.toList.isEmpty = false := isE_ne he
      have hsz : 0 < s.size := by rw [← dl]; exact List.length_pos_iff.2 he
      have hszI : (0 : Int) < (s.size : Int) := by omega
      have hat := data_get s 0 hsz
      obtain ⟨c, hc⟩ : ∃ c, s[0]'hsz = c := ⟨_, rfl⟩
      rw [hc] at hat
      have HI := Lib.hid (fun w => Try.strings_IndexByte ⟨#[63, 35, 64, 42]⟩ c.toNat w)
      have hcc : ((c.toNat : Int).toNat).toUInt8 = c := by simp
      rw [hcc] at HI
      have hx := contains_idx c [63, 35, 64, 42]
      obtain ⟨x, hx1⟩ : ∃ x, isDigit c = x := ⟨_, rfl⟩
      obtain ⟨y, hy1⟩ : ∃ y, [63, 35, 64, 42].contains c = y := ⟨_, rfl⟩
      have HR : Hid (r = if (x || y) = true then 1 else 0) := by
        have hdr := at_drop hat
        rw [List.drop_zero] at hdr
        rw [hdr] at hn
        rw [Hid, ← hr, hdr, paramLen_cons (by rw [hn]; exact h0), ← hx1, ← hy1]; rfl
      have HDC := Lib.hid (HD.out c)
      rw [hx1] at HDC
      rw [hy1] at hx
      obtain ⟨z, hz⟩ : ∃ z, Lib.indexByte [63, 35, 64, 42] c = z := ⟨_, rfl⟩
      have HI2 : Hid (∀ w, Calls Try.prog 73 #[.string ⟨#[63, 35, 64, 42]⟩, .int .u8 c.toNat] w fun e w' => e = .returned (.int .i64 z) ∧ w' = w) := by rw [Hid, ← hz]; exact HI.out
      rw [hz] at hx
      clear hn hr he hx1 hy1 hz HI hcc hat
      cases x <;> cases y
      all_goals
        go_enter Try.func62, Try.ntmps62
        go_wp2_with (first
          | (go_at_call 78; refine (HN.out _).mono ?_; rintro e w1 ⟨rfl, h1⟩; obtain rfl := h1.symm; simp only [])
          | (go_at_call 79; refine (HDC.out _).mono ?_; rintro e w1 ⟨rfl, h1⟩; obtain rfl := h1.symm; simp only [])
          | (go_at_call 73; refine (HI2.out _).mono ?_; rintro e w1 ⟨rfl, h1⟩; obtain rfl := h1.symm; simp only []))
        go_ret
        rw [HR.out]
        exact ⟨rfl, rfl⟩
set_option maxRecDepth 100000 in
set_option maxHeartbeats 4000000 in
theorem longParam_any (s : ByteArray) (hs : s.size ≤ 1000000) (w : World) : Calls Try.prog 76 #[.string s] w fun e w' => e = .returned (.int .i64 (longParam s.data.toList)) ∧ w' = w := by
  have HP := Lib.hid (fun w => paramLen_any s hs w)
  have HD := Lib.hid (fun w => Digits_any s hs w)
  obtain ⟨r, hr⟩ : ∃ r, longParam s.data.toList = r := ⟨_, rfl⟩
  obtain ⟨a, ha⟩ : ∃ a, paramLen s.data.toList = a := ⟨_, rfl⟩
  obtain ⟨b, hb⟩ : ∃ b, digitsLen s.data.toList = b := ⟨_, rfl⟩
  have hmx : max (a : Int) (b : Int) = (r : Int) := by rw [← hr, longParam, ha, hb]; omega
  rw [ha] at HP
  rw [hb] at HD
  rw [hr]
  clear hr ha hb
  go_enter Try.func76, Try.ntmps76
  go_wp2_with (first
    | (go_at_call 62; refine (HP.out _).mono ?_; rintro e w1 ⟨rfl, h1⟩; obtain rfl := h1.symm; simp only [])
    | (go_at_call 83; refine (HD.out _).mono ?_; rintro e w1 ⟨rfl, h1⟩; obtain rfl := h1.symm; simp only []))
  go_ret
  exact ⟨rfl, rfl⟩
end Go.Proofs.Ytafbheplaheohaa
