import Derived.Test.YthbemfpoanmjcaaDoorBA
import Derived.Test.YthbemfpoanmjcaaDoorAE
namespace Go.Proofs.YthbemfpoanmjcaaDoor
open Go.RowKit
set_option linter.unusedVariables false

def isB (c : UInt8) : Bool := [(32 : UInt8), 9].contains c

theorem blank_any (c : UInt8) (w : World) : Calls Tryd.prog 57 #[.int .u8 c.toNat] w fun e w' => e = .returned (.bool (isB c)) ∧ w' = w := by
  have h0 : ∀ d : UInt8, ((c.toNat : Int) == (d.toNat : Int)) = (c == d) := by
    intro d
    rw [Bool.eq_iff_iff]
    simp only [beq_iff_eq]
    constructor
    · intro h; exact UInt8.toNat_inj.1 (by omega)
    · intro h; rw [h]
  have e : isB c = ((c == 32) || (c == 9)) := by
    unfold isB; simp only [List.contains, List.elem]
    cases (c == 32) <;> cases (c == 9) <;> rfl
  have h1 := h0 32
  have h2 := h0 9
  rw [e]
  cases hc1 : (c == 32) with
  | true =>
    rw [hc1] at h1
    have h1 : ((c.toNat : Int) == 32) = true := h1
    clear h0 h2 e hc1
    go_enter Tryd.func57, Tryd.ntmps57
    go_wp2_with fail
    go_ret
    exact ⟨rfl, rfl⟩
  | false =>
    rw [hc1] at h1
    have h1 : ((c.toNat : Int) == 32) = false := h1
    cases hc2 : (c == 9) with
    | true =>
      rw [hc2] at h2
      have h2 : ((c.toNat : Int) == 9) = true := h2
      clear h0 e hc1 hc2
      go_enter Tryd.func57, Tryd.ntmps57
      go_wp2_with fail
      go_ret
      exact ⟨rfl, rfl⟩
    | false =>
      rw [hc2] at h2
      have h2 : ((c.toNat : Int) == 9) = false := h2
      clear h0 e hc1 hc2
      go_enter Tryd.func57, Tryd.ntmps57
      go_wp2_with fail
      go_ret
      exact ⟨rfl, rfl⟩

theorem get_at {s : ByteArray} {k : Nat} (h : k < s.size) : s.get! k = s[k]'h := by
  obtain ⟨d⟩ := s
  show d[k]! = d[k]'h
  rw [getElem!_pos d k h]

theorem sep_byte {s : ByteArray} {k : Nat} (h : k < s.size) : sepAt s k = (isB (s[k]'h) || (s[k]'h == 10)) := by
  unfold sepAt
  rw [get_at h]
  generalize s[k]'h = c
  have e : ∀ d : UInt8, (c.toNat == d.toNat) = (c == d) := fun d => by
    rw [Bool.eq_iff_iff]; simp only [beq_iff_eq]; exact ⟨fun h => UInt8.toNat_inj.1 h, fun h => by rw [h]⟩
  have e1 := e 32
  have e2 := e 9
  have e3 := e 10
  rw [show (32 : UInt8).toNat = 32 from rfl] at e1
  rw [show (9 : UInt8).toNat = 9 from rfl] at e2
  rw [show (10 : UInt8).toNat = 10 from rfl] at e3
  unfold sepR isB
  rw [e1, e2, e3]
  simp only [List.contains, List.elem]
  cases (c == 32) <;> cases (c == 9) <;> cases (c == 10) <;> rfl

def exts (s : ByteArray) (acc : List (Nat × Nat)) : List ByteArray := acc.map fun x => s.extract x.1 x.2

set_option maxRecDepth 100000 in
set_option maxHeartbeats 8000000 in
theorem RefWords_any (s : ByteArray) (w : World) (hs : s.size ≤ 80000) : Calls Tryd.prog 44 #[.string s] w (WordsP w s) := by
  obtain ⟨SP, hSP⟩ : ∃ SP, Lib.closeSpans s (stepB s s.size 0 none []) = SP := ⟨_, rfl⟩
  have hst := AtW.start s
  rw [hSP] at hst
  have HST := Lib.hid hst
  have HWB : Hid (wordsB s = exts s SP) := by rw [Hid, ← hSP]; rfl
  have hsI : (s.size : Int) ≤ 80000 := by omega
  clear hSP hst
  go_enter Tryd.func44, Tryd.ntmps44
  go_wp2_with fail
  go_loopw [3, 4, 5] (fun x f i wx => ∃ (k fr : Nat) (v : Value) (acc : List (Nat × Nat)), v = x ∧ f = .int .i64 fr ∧ i = .int .i64 k ∧ k ≤ s.size + 1 ∧ Hid (Wn w wx v (exts s acc)) ∧ Hid ((k ≤ s.size ∧ AtW s SP k fr acc) ∨ (k = s.size + 1 ∧ acc = SP))) (fun _ _ i _ => s.size + 1 - (intOf i).toNat)
  case atStart => exact ⟨0, 0, _, [], rfl, rfl, rfl, by omega, Wn.nil _, .inl ⟨Nat.zero_le _, HST.out⟩⟩
  case round =>
    obtain ⟨k, fr, v, acc, rfl, rfl, rfl, hk, HW, HA⟩ := hrel
    by_cases hend : k = s.size + 1
    · subst hend
      have hd : decide (((s.size + 1 : Nat) : Int) ≤ (s.size : Int)) = false := decide_eq_false (by omega)
      have hd2 : decide ((s.size : Int) + 1 ≤ (s.size : Int)) = false := decide_eq_false (by omega)
      have HE : Hid (WordsP w s (.returned v) wr) := by
        rcases HA.out with ⟨h, _⟩ | ⟨_, h⟩
        · omega
        · subst h
          exact ⟨v, rfl, by rw [HWB.out]; exact HW.out⟩
      go_wp2_with fail
      go_ret
      exact HE.out
    have hkle : k ≤ s.size := by omega
    have hAt : AtW s SP k fr acc := by
      rcases HA.out with ⟨_, h⟩ | ⟨h, _⟩
      · exact h
      · exact absurd h hend
    have HAT := Lib.hid hAt
    have hfr := hAt.le
    have hal := hAt.len
    have hel : (exts s acc).length = acc.length := by simp [exts]
    clear HA hAt
    have hdle : decide ((k : Int) ≤ (s.size : Int)) = true := decide_eq_true (by omega)
    have hb64 : IntKind.i64.wrap ((k : Int) + 1) = (k : Int) + 1 := IntWalk.i64_in _ (by omega)
    have hf0 : (0 : Int) ≤ (fr : Int) := by omega
    have hk0 : (0 : Int) ≤ (k : Int) := by omega
    have hfk : (fr : Int) ≤ (k : Int) := by omega
    have hks : (k : Int) ≤ (s.size : Int) := by omega

    by_cases hlt : k < s.size
    case neg =>
      have HKK : Hid (k = s.size) := (show k = s.size by omega)
      have hltd : decide ((k : Int) < (s.size : Int)) = false := decide_eq_false (by omega)
      by_cases hff : fr < k
      · have hfd : decide ((fr : Int) < (k : Int)) = true := decide_eq_true (by omega)
        obtain ⟨E, hE⟩ : ∃ E, s.extract fr k = E := ⟨_, rfl⟩
        obtain ⟨v6, w6, r6, h6⟩ := HW.out.push (by omega) E
        have HN : Hid (Wn w w6 v6 (exts s (acc ++ [(fr, k)]))) := by
          rw [Hid, show exts s (acc ++ [(fr, k)]) = exts s acc ++ [E] by rw [← hE]; simp [exts]]; exact h6
        have HNA : Hid ((k + 1 ≤ s.size ∧ AtW s SP (k + 1) (k + 1) (acc ++ [(fr, k)])) ∨ (k + 1 = s.size + 1 ∧ acc ++ [(fr, k)] = SP)) := .inr ⟨by rw [HKK.out], by
          have h := HAT.out
          rw [HKK.out] at h
          have := h.last
          rw [if_pos (by have := HKK.out; omega)] at this
          rw [this, HKK.out]⟩
        go_wp2_with (at_builtin; refine wpList_run_append _ rfl _ _ 38 38 rfl _ _ rfl rfl r6 ?_)
        go_roundw
        case measure => simp [intOf]; omega
        case rel => exact ⟨k + 1, k + 1, v6, acc ++ [(fr, k)], rfl, by go_num, by go_num, by omega, HN.out, HNA.out⟩
      · have hfd : decide ((fr : Int) < (k : Int)) = false := decide_eq_false (by omega)
        have HNA : Hid ((k + 1 ≤ s.size ∧ AtW s SP (k + 1) (k + 1) acc) ∨ (k + 1 = s.size + 1 ∧ acc = SP)) := .inr ⟨by rw [HKK.out], by
          have h := HAT.out
          rw [HKK.out] at h
          have := h.last
          rw [if_neg (by have := HKK.out; omega)] at this
          rw [this]⟩
        go_wp2_with fail
        go_roundw
        case measure => simp [intOf]; omega
        case rel => exact ⟨k + 1, k + 1, v, acc, rfl, by go_num, by go_num, by omega, HW.out, HNA.out⟩
    case pos =>
      have hltd : decide ((k : Int) < (s.size : Int)) = true := decide_eq_true (by omega)
      have hltI : (k : Int) < (s.size : Int) := by omega
      obtain ⟨c, hc⟩ : ∃ c, s[k]'hlt = c := ⟨_, rfl⟩
      have HBL := Lib.hid (fun wx => blank_any c wx)
      have h10 := byte_eq c 10
      rw [show ((10 : UInt8).toNat : Int) = 10 from rfl] at h10
      cases hb : isB c with
      | true =>
        rw [hb] at HBL
        have hsep : (isB c || c == 10) = true := by rw [hb]; rfl
        clear hb h10
        by_cases hff : fr < k
        · have hfd : decide ((fr : Int) < (k : Int)) = true := decide_eq_true (by omega)
          obtain ⟨E, hE⟩ : ∃ E, s.extract fr k = E := ⟨_, rfl⟩
          obtain ⟨v6, w6, r6, h6⟩ := HW.out.push (by omega) E
          have HN : Hid (Wn w w6 v6 (exts s (acc ++ [(fr, k)]))) := by
            rw [Hid, show exts s (acc ++ [(fr, k)]) = exts s acc ++ [E] by rw [← hE]; simp [exts]]; exact h6
          have HNA : Hid ((k + 1 ≤ s.size ∧ AtW s SP (k + 1) (k + 1) (acc ++ [(fr, k)])) ∨ (k + 1 = s.size + 1 ∧ acc ++ [(fr, k)] = SP)) := .inl ⟨by omega, HAT.out.word hlt (by rw [sep_byte hlt, hc]; exact hsep) hff⟩
          clear hsep
          go_wp2_with (first
            | (go_at_call 57; refine (HBL.out _).mono ?_; rintro e w7 ⟨rfl, h7⟩; obtain rfl := h7.symm; simp only [])
            | (at_builtin; refine wpList_run_append _ rfl _ _ 38 38 rfl _ _ rfl rfl r6 ?_))
          go_roundw
          case measure => simp [intOf]; omega
          case rel => exact ⟨k + 1, k + 1, v6, acc ++ [(fr, k)], rfl, by go_num, by go_num, by omega, HN.out, HNA.out⟩
        · have hfd : decide ((fr : Int) < (k : Int)) = false := decide_eq_false (by omega)
          have HNA : Hid ((k + 1 ≤ s.size ∧ AtW s SP (k + 1) (k + 1) acc) ∨ (k + 1 = s.size + 1 ∧ acc = SP)) := .inl ⟨by omega, HAT.out.skip hlt (by rw [sep_byte hlt, hc]; exact hsep) hff⟩
          clear hsep
          go_wp2_with (go_at_call 57; refine (HBL.out _).mono ?_; rintro e w7 ⟨rfl, h7⟩; obtain rfl := h7.symm; simp only [])
          go_roundw
          case measure => simp [intOf]; omega
          case rel => exact ⟨k + 1, k + 1, v, acc, rfl, by go_num, by go_num, by omega, HW.out, HNA.out⟩
      | false =>
        rw [hb] at HBL
        cases hc10 : (c == 10) with
        | true =>
          rw [hc10] at h10
          have hsep : (isB c || c == 10) = true := by rw [hb, hc10]; rfl
          clear hb hc10
          by_cases hff : fr < k
          · have hfd : decide ((fr : Int) < (k : Int)) = true := decide_eq_true (by omega)
            obtain ⟨E, hE⟩ : ∃ E, s.extract fr k = E := ⟨_, rfl⟩
            obtain ⟨v6, w6, r6, h6⟩ := HW.out.push (by omega) E
            have HN : Hid (Wn w w6 v6 (exts s (acc ++ [(fr, k)]))) := by
              rw [Hid, show exts s (acc ++ [(fr, k)]) = exts s acc ++ [E] by rw [← hE]; simp [exts]]; exact h6
            have HNA : Hid ((k + 1 ≤ s.size ∧ AtW s SP (k + 1) (k + 1) (acc ++ [(fr, k)])) ∨ (k + 1 = s.size + 1 ∧ acc ++ [(fr, k)] = SP)) := .inl ⟨by omega, HAT.out.word hlt (by rw [sep_byte hlt, hc]; exact hsep) hff⟩
            clear hsep
            go_wp2_with (first
              | (go_at_call 57; refine (HBL.out _).mono ?_; rintro e w7 ⟨rfl, h7⟩; obtain rfl := h7.symm; simp only [])
              | (at_builtin; refine wpList_run_append _ rfl _ _ 38 38 rfl _ _ rfl rfl r6 ?_))
            go_roundw
            case measure => simp [intOf]; omega
            case rel => exact ⟨k + 1, k + 1, v6, acc ++ [(fr, k)], rfl, by go_num, by go_num, by omega, HN.out, HNA.out⟩
          · have hfd : decide ((fr : Int) < (k : Int)) = false := decide_eq_false (by omega)
            have HNA : Hid ((k + 1 ≤ s.size ∧ AtW s SP (k + 1) (k + 1) acc) ∨ (k + 1 = s.size + 1 ∧ acc = SP)) := .inl ⟨by omega, HAT.out.skip hlt (by rw [sep_byte hlt, hc]; exact hsep) hff⟩
            clear hsep
            go_wp2_with (go_at_call 57; refine (HBL.out _).mono ?_; rintro e w7 ⟨rfl, h7⟩; obtain rfl := h7.symm; simp only [])
            go_roundw
            case measure => simp [intOf]; omega
            case rel => exact ⟨k + 1, k + 1, v, acc, rfl, by go_num, by go_num, by omega, HW.out, HNA.out⟩
        | false =>
          rw [hc10] at h10
          have HNA : Hid ((k + 1 ≤ s.size ∧ AtW s SP (k + 1) fr acc) ∨ (k + 1 = s.size + 1 ∧ acc = SP)) := .inl ⟨by omega, HAT.out.on hlt (by rw [sep_byte hlt, hc, hb, hc10]; rfl)⟩
          clear hb hc10
          go_wp2_with (go_at_call 57; refine (HBL.out _).mono ?_; rintro e w7 ⟨rfl, h7⟩; obtain rfl := h7.symm; simp only [])
          go_roundw
          case measure => simp [intOf]; omega
          case rel => exact ⟨k + 1, fr, v, acc, rfl, rfl, by go_num, by omega, HW.out, HNA.out⟩


theorem idxB_take {c : UInt8} {l : Bs} {k : Nat} (hk : k < l.length) (hn : c ∉ l.take k) (hc : l[k] = c) : Lib.indexByte l c = k := by
  have e : l = l.take k ++ c :: l.drop (k + 1) := by
    conv => lhs; rw [← List.take_append_drop k l, List.drop_eq_getElem_cons hk, hc]
  rw [e, idxB_at _ hn, List.length_take]; omega
set_option maxRecDepth 100000 in
set_option maxHeartbeats 1000000 in
theorem At_any (s : ByteArray) (c : UInt8) (w : World) (hs : s.size ≤ 1000000) : Calls Tryd.prog 43 #[.string s, .int .u8 c.toNat] w fun e w' => e = .returned (.int .i64 (Lib.indexByte s.data.toList c)) ∧ w' = w := by
  go_enter Tryd.func43, Tryd.ntmps43
  go_wp2_with fail
  go_loop [5] (fun n => ∃ k : Nat, k ≤ s.size ∧ n = .int .i64 k ∧ Hid (c ∉ s.data.toList.take k)) (fun n => s.size - (intOf n).toNat)
  case atStart => exact ⟨0, by omega, rfl, Lib.hid (by simp)⟩
  case round =>
    obtain ⟨k, hk, rfl, HA⟩ := hrel
    by_cases hlt : k < s.size
    · have hltI : (k : Int) < (s.size : Int) := by omega
      have hltd : decide ((k : Int) < (s.size : Int)) = true := decide_eq_true hltI
      have hkl : k < s.data.toList.length := by rw [dl]; exact hlt
      have hge := Lib.data_getElem? s k hlt
      rw [List.getElem?_eq_getElem hkl] at hge
      have hee := Option.some.inj hge
      obtain ⟨b, hb⟩ : ∃ b, s[k]'hlt = b := ⟨_, rfl⟩
      rw [hb] at hee
      have hbc := byte_eq b c
      have b64 : IntKind.i64.wrap ((k : Int) + 1) = (k : Int) + 1 := IntWalk.i64_in _ (by omega)
      cases hq : (b == c) with
      | true =>
        rw [hq] at hbc
        have HP : Hid (Lib.indexByte s.data.toList c = k) := idxB_take hkl HA.out (by rw [hee]; exact beq_iff_eq.1 hq)
        clear hq hge hee
        go_wp2_with fail
        go_ret
        exact ⟨by rw [HP.out]; rfl, rfl⟩
      | false =>
        rw [hq] at hbc
        have HN : Hid (c ∉ s.data.toList.take (k + 1)) := by
          rw [Hid, List.take_succ_eq_append_getElem hkl, List.mem_append, hee]
          rintro (h | h)
          · exact HA.out h
          · rw [List.mem_singleton] at h; subst h; simp at hq
        clear hq hge hee
        go_wp2_with fail
        go_round
        case rel => exact ⟨k + 1, by omega, by go_num, HN.out⟩
        case measure => simp [intOf]; omega
    · have hltd : decide ((k : Int) < (s.size : Int)) = false := decide_eq_false (by omega)
      have HP : Hid (Lib.indexByte s.data.toList c = -1) := by
        refine idxB_no ?_
        have h := HA.out
        rwa [List.take_of_length_le (by rw [dl]; omega)] at h
      go_wp2_with fail
      go_ret
      exact ⟨by rw [HP.out]; rfl, rfl⟩

end Go.Proofs.YthbemfpoanmjcaaDoor
