import Derived.Test.YtcjfpkfbdcmlbaaDoorH
import Derived.Test.YtcjfpkfbdcmlbaaDoorI
namespace Go.Proofs.YtcjfpkfbdcmlbaaDoor
open Go.RowKit
set_option linter.unusedVariables false

theorem Blank_any (x : Nat) (w : World) : Calls Tryd.prog 46 #[.int .u8 x] w fun e w' => e = .returned (.bool (x == 32 || x == 9)) ∧ w' = w := by
  have h1 : ((x : Int) == 32) = (x == 32) := by rw [Bool.eq_iff_iff]; simp; omega
  have h2 : ((x : Int) == 9) = (x == 9) := by rw [Bool.eq_iff_iff]; simp; omega
  cases hx : x == 32 with
  | true =>
    rw [hx] at h1
    clear hx
    go_enter Tryd.func46, Tryd.ntmps46
    go_wp2_with fail
    go_ret
    exact ⟨rfl, rfl⟩
  | false =>
    rw [hx] at h1
    clear hx
    obtain ⟨r, hr⟩ : ∃ r, (x == 9) = r := ⟨_, rfl⟩
    rw [hr] at h2 ⊢
    clear hr
    go_enter Tryd.func46, Tryd.ntmps46
    go_wp2_with fail
    go_ret
    exact ⟨by simp, rfl⟩
theorem Space_any (x : Nat) (w : World) : Calls Tryd.prog 32 #[.int .u8 x] w fun e w' => e = .returned (.bool (sepR x)) ∧ w' = w := by
  have h3 : ((x : Int) == 10) = (x == 10) := by rw [Bool.eq_iff_iff]; simp; omega
  have HB := Lib.hid (Blank_any x w)
  unfold sepR
  obtain ⟨q, hq⟩ : ∃ q, (x == 32 || x == 9) = q := ⟨_, rfl⟩
  rw [hq] at HB ⊢
  obtain ⟨r, hr⟩ : ∃ r, (x == 10) = r := ⟨_, rfl⟩
  rw [hr] at h3 ⊢
  clear hq hr
  cases q with
  | true =>
    go_enter Tryd.func32, Tryd.ntmps32
    go_wp2_with (go_at_call 46; refine HB.out.mono ?_; rintro e w5 ⟨rfl, h5⟩; obtain rfl := h5.symm; simp only [])
    go_ret
    exact ⟨by simp, rfl⟩
  | false =>
    go_enter Tryd.func32, Tryd.ntmps32
    go_wp2_with (go_at_call 46; refine HB.out.mono ?_; rintro e w5 ⟨rfl, h5⟩; obtain rfl := h5.symm; simp only [])
    go_ret
    exact ⟨by simp, rfl⟩
theorem sep_closure (x : Nat) (w : World) : Calls Tryd.prog 31 #[.int .i32 x] w fun e w' => e = .returned (.bool (sepR x)) ∧ w' = w := by
  have HS := Lib.hid (Space_any x w)
  obtain ⟨q, hq⟩ : ∃ q, sepR x = q := ⟨_, rfl⟩
  rw [hq] at HS ⊢
  by_cases hx : x < 128
  · have hd : decide ((x : Int) < 128) = true := decide_eq_true (by omega)
    have hw : IntKind.u8.wrap (x : Int) = (x : Int) := by
      rw [IntKind.wrap]; simp [IntKind.signed, IntKind.bits]; omega
    clear hq
    go_enter Tryd.func31, Tryd.ntmps31
    go_wp2_with (go_at_call 32; refine HS.out.mono ?_; rintro e w5 ⟨rfl, h5⟩; obtain rfl := h5.symm; simp only [])
    go_ret
    exact ⟨rfl, rfl⟩
  · have hd : decide ((x : Int) < 128) = false := decide_eq_false (by omega)
    obtain rfl : q = false := by rw [← hq]; exact sepR_big (by omega) (by omega)
    clear hq
    go_enter Tryd.func31, Tryd.ntmps31
    go_wp2_with fail
    go_ret
    exact ⟨rfl, rfl⟩
def WordsP (w : World) (s : ByteArray) (e : Ending) (w' : World) : Prop := ∃ v, e = .returned v ∧ Wn w w' v (wordsB s)
theorem e31 : ∀ args w, (callFunc 31 args).run Tryd.prog w = .ok (.enter 31 args) w := enters_of Tryd.func31 (by kernel_rfl) rfl
set_option maxRecDepth 100000 in
set_option maxHeartbeats 8000000 in
theorem Words_any (s : ByteArray) (w : World) (hs : s.size ≤ 1000000) : Calls Tryd.prog 12 #[.string s] w (WordsP w s) := by
  have hp : PredAtRunes Tryd.prog 31 #[] sepR w := fun W x hx hb => by
    refine Calls.mono (sep_closure x W) ?_
    rintro e w' ⟨h1, h2⟩
    exact ⟨h1, 0, by rw [h2]; exact (World.drewN_zero _).symm⟩
  have hc := Tryd.strings_FieldsFunc_runes 31 #[] e31 sepR s w (by omega) hp
  rw [goFieldsP_sep] at hc
  have HC : Hid (Calls Tryd.prog 30 #[.string s, .func (.func 31) #[] #[]] w (WordsP w s)) := by
    refine Calls.mono hc ?_
    rintro e w' ⟨A, h1, _, h2, h3⟩
    exact ⟨_, h1, ⟨h2, h3⟩⟩
  clear hc hp
  go_enter Tryd.func12, Tryd.ntmps12
  go_wp2_with (go_at_call 30; refine HC.out.mono ?_)
  rintro e w5 ⟨v, rfl, hW⟩
  have HW := Lib.hid hW
  clear hW
  simp only []
  go_wp2_with fail
  go_ret
  exact ⟨v, rfl, HW.out⟩
theorem get_at {s : ByteArray} {k : Nat} (h : k < s.size) : s.get! k = s[k]'h := by
  obtain ⟨d⟩ := s
  show d[k]! = d[k]'h
  rw [getElem!_pos d k h]
theorem sep_byte {s : ByteArray} {k : Nat} (h : k < s.size) : sepAt s k = (isB (s[k]'h) || (s[k]'h == 10)) := by
  unfold sepAt
  rw [get_at h]
  generalize s[k]'h = c
  have e : ∀ d : UInt8, (c.toNat == d.toNat) = (c == d) := fun d => by
    rw [Bool.eq_iff_iff]; simp only [beq_iff_eq]; exact ⟨fun h => UInt8.toNat_inj.1 h, fun h => by rw [h]⟩
  have e1 := e 32
  have e2 := e 9
  have e3 := e 10
  rw [show (32 : UInt8).toNat = 32 from rfl] at e1
  rw [show (9 : UInt8).toNat = 9 from rfl] at e2
  rw [show (10 : UInt8).toNat = 10 from rfl] at e3
  unfold sepR isB
  rw [e1, e2, e3]
  simp only [List.contains, List.elem]
  cases (c == 32) <;> cases (c == 9) <;> cases (c == 10) <;> rfl
def exts (s : ByteArray) (acc : List (Nat × Nat)) : List ByteArray := acc.map fun x => s.extract x.1 x.2
set_option maxRecDepth 100000 in
set_option maxHeartbeats 8000000 in
theorem RefWords_any (s : ByteArray) (w : World) (hs : s.size ≤ 80000) : Calls Tryd.prog 13 #[.string s] w (WordsP w s) := by
  obtain ⟨SP, hSP⟩ : ∃ SP, Lib.closeSpans s (stepB s s.size 0 none []) = SP := ⟨_, rfl⟩
  have hst := AtW.start s
  rw [hSP] at hst
  have HST := Lib.hid hst
  have HWB : Hid (wordsB s = exts s SP) := by rw [Hid, ← hSP]; rfl
  have hsI : (s.size : Int) ≤ 80000 := by omega
  clear hSP hst
  go_enter Tryd.func13, Tryd.ntmps13
  go_wp2_with fail
  go_loopw [3, 4, 5] (fun x f i wx => ∃ (k fr : Nat) (v : Value) (acc : List (Nat × Nat)), v = x ∧ f = .int .i64 fr ∧ i = .int .i64 k ∧ k ≤ s.size + 1 ∧ Hid (Wn w wx v (exts s acc)) ∧ Hid ((k ≤ s.size ∧ AtW s SP k fr acc) ∨ (k = s.size + 1 ∧ acc = SP))) (fun _ _ i _ => s.size + 1 - (intOf i).toNat)
  case atStart => exact ⟨0, 0, _, [], rfl, rfl, rfl, by omega, Wn.nil _, .inl ⟨Nat.zero_le _, HST.out⟩⟩
  case round =>
    obtain ⟨k, fr, v, acc, rfl, rfl, rfl, hk, HW, HA⟩ := hrel
    by_cases hend : k = s.size + 1
    · subst hend
      have hd : decide (((s.size + 1 : Nat) : Int) ≤ (s.size : Int)) = false := decide_eq_false (by omega)
      have hd2 : decide ((s.size : Int) + 1 ≤ (s.size : Int)) = false := decide_eq_false (by omega)
      have HE : Hid (WordsP w s (.returned v) wr) := by
        rcases HA.out with ⟨h, _⟩ | ⟨_, h⟩
        · omega
        · subst h
          exact ⟨v, rfl, by rw [HWB.out]; exact HW.out⟩
      go_wp2_with fail
      go_ret
      exact HE.out
    have hkle : k ≤ s.size := by omega
    have hAt : AtW s SP k fr acc := by
      rcases HA.out with ⟨_, h⟩ | ⟨h, _⟩
      · exact h
      · exact absurd h hend
    have HAT := Lib.hid hAt
    have hfr := hAt.le
    have hal := hAt.len
    have hel : (exts s acc).length = acc.length := by simp [exts]
    clear HA hAt
    have hdle : decide ((k : Int) ≤ (s.size : Int)) = true := decide_eq_true (by omega)
    have hb64 : IntKind.i64.wrap ((k : Int) + 1) = (k : Int) + 1 := IntWalk.i64_in _ (by omega)
    have hf0 : (0 : Int) ≤ (fr : Int) := by omega
    have hk0 : (0 : Int) ≤ (k : Int) := by omega
    have hfk : (fr : Int) ≤ (k : Int) := by omega
    have hks : (k : Int) ≤ (s.size : Int) := by omega

    by_cases hlt : k < s.size
    case neg =>
      have HKK : Hid (k = s.size) := (show k = s.size by omega)
      have hltd : decide ((k : Int) < (s.size : Int)) = false := decide_eq_false (by omega)
      by_cases hff : fr < k
      · have hfd : decide ((fr : Int) < (k : Int)) = true := decide_eq_true (by omega)
        obtain ⟨E, hE⟩ : ∃ E, s.extract fr k = E := ⟨_, rfl⟩
        obtain ⟨v6, w6, r6, h6⟩ := HW.out.push (by omega) E
        have HN : Hid (Wn w w6 v6 (exts s (acc ++ [(fr, k)]))) := by
          rw [Hid, show exts s (acc ++ [(fr, k)]) = exts s acc ++ [E] by rw [← hE]; simp [exts]]; exact h6
        have HNA : Hid ((k + 1 ≤ s.size ∧ AtW s SP (k + 1) (k + 1) (acc ++ [(fr, k)])) ∨ (k + 1 = s.size + 1 ∧ acc ++ [(fr, k)] = SP)) := .inr ⟨by rw [HKK.out], by
          have h := HAT.out
          rw [HKK.out] at h
          have := h.last
          rw [if_pos (by have := HKK.out; omega)] at this
          rw [this, HKK.out]⟩
        go_wp2_with (at_builtin; refine wpList_run_append _ rfl _ _ 32 32 rfl _ _ rfl rfl r6 ?_)
        go_roundw
        case measure => simp [intOf]; omega
        case rel => exact ⟨k + 1, k + 1, v6, acc ++ [(fr, k)], rfl, by go_num, by go_num, by omega, HN.out, HNA.out⟩
      · have hfd : decide ((fr : Int) < (k : Int)) = false := decide_eq_false (by omega)
        have HNA : Hid ((k + 1 ≤ s.size ∧ AtW s SP (k + 1) (k + 1) acc) ∨ (k + 1 = s.size + 1 ∧ acc = SP)) := .inr ⟨by rw [HKK.out], by
          have h := HAT.out
          rw [HKK.out] at h
          have := h.last
          rw [if_neg (by have := HKK.out; omega)] at this
          rw [this]⟩
        go_wp2_with fail
        go_roundw
        case measure => simp [intOf]; omega
        case rel => exact ⟨k + 1, k + 1, v, acc, rfl, by go_num, by go_num, by omega, HW.out, HNA.out⟩
    case pos =>
      have hltd : decide ((k : Int) < (s.size : Int)) = true := decide_eq_true (by omega)
      have hltI : (k : Int) < (s.size : Int) := by omega
      obtain ⟨c, hc⟩ : ∃ c, s[k]'hlt = c := ⟨_, rfl⟩
      have HBL := Lib.hid (fun wx => blank_any c wx)
      have h10 := byte_eq c 10
      rw [show ((10 : UInt8).toNat : Int) = 10 from rfl] at h10
      cases hb : isB c with
      | true =>
        rw [hb] at HBL
        have hsep : (isB c || c == 10) = true := by rw [hb]; rfl
        clear hb h10
        by_cases hff : fr < k
        · have hfd : decide ((fr : Int) < (k : Int)) = true := decide_eq_true (by omega)
          obtain ⟨E, hE⟩ : ∃ E, s.extract fr k = E := ⟨_, rfl⟩
          obtain ⟨v6, w6, r6, h6⟩ := HW.out.push (by omega) E
          have HN : Hid (Wn w w6 v6 (exts s (acc ++ [(fr, k)]))) := by
            rw [Hid, show exts s (acc ++ [(fr, k)]) = exts s acc ++ [E] by rw [← hE]; simp [exts]]; exact h6
          have HNA : Hid ((k + 1 ≤ s.size ∧ AtW s SP (k + 1) (k + 1) (acc ++ [(fr, k)])) ∨ (k + 1 = s.size + 1 ∧ acc ++ [(fr, k)] = SP)) := .inl ⟨by omega, HAT.out.word hlt (by rw [sep_byte hlt, hc]; exact hsep) hff⟩
          clear hsep
          go_wp2_with (first
            | (go_at_call 27; refine (HBL.out _).mono ?_; rintro e w7 ⟨rfl, h7⟩; obtain rfl := h7.symm; simp only [])
            | (at_builtin; refine wpList_run_append _ rfl _ _ 32 32 rfl _ _ rfl rfl r6 ?_))
          go_roundw
          case measure => simp [intOf]; omega
          case rel => exact ⟨k + 1, k + 1, v6, acc ++ [(fr, k)], rfl, by go_num, by go_num, by omega, HN.out, HNA.out⟩
        · have hfd : decide ((fr : Int) < (k : Int)) = false := decide_eq_false (by omega)
          have HNA : Hid ((k + 1 ≤ s.size ∧ AtW s SP (k + 1) (k + 1) acc) ∨ (k + 1 = s.size + 1 ∧ acc = SP)) := .inl ⟨by omega, HAT.out.skip hlt (by rw [sep_byte hlt, hc]; exact hsep) hff⟩
          clear hsep
          go_wp2_with (go_at_call 27; refine (HBL.out _).mono ?_; rintro e w7 ⟨rfl, h7⟩; obtain rfl := h7.symm; simp only [])
          go_roundw
          case measure => simp [intOf]; omega
          case rel => exact ⟨k + 1, k + 1, v, acc, rfl, by go_num, by go_num, by omega, HW.out, HNA.out⟩
      | false =>
        rw [hb] at HBL
        cases hc10 : (c == 10) with
        | true =>
          rw [hc10] at h10
          have hsep : (isB c || c == 10) = true := by rw [hb, hc10]; rfl
          clear hb hc10
          by_cases hff : fr < k
          · have hfd : decide ((fr : Int) < (k : Int)) = true := decide_eq_true (by omega)
            obtain ⟨E, hE⟩ : ∃ E, s.extract fr k = E := ⟨_, rfl⟩
            obtain ⟨v6, w6, r6, h6⟩ := HW.out.push (by omega) E
            have HN : Hid (Wn w w6 v6 (exts s (acc ++ [(fr, k)]))) := by
              rw [Hid, show exts s (acc ++ [(fr, k)]) = exts s acc ++ [E] by rw [← hE]; simp [exts]]; exact h6
            have HNA : Hid ((k + 1 ≤ s.size ∧ AtW s SP (k + 1) (k + 1) (acc ++ [(fr, k)])) ∨ (k + 1 = s.size + 1 ∧ acc ++ [(fr, k)] = SP)) := .inl ⟨by omega, HAT.out.word hlt (by rw [sep_byte hlt, hc]; exact hsep) hff⟩
            clear hsep
            go_wp2_with (first
              | (go_at_call 27; refine (HBL.out _).mono ?_; rintro e w7 ⟨rfl, h7⟩; obtain rfl := h7.symm; simp only [])
              | (at_builtin; refine wpList_run_append _ rfl _ _ 32 32 rfl _ _ rfl rfl r6 ?_))
            go_roundw
            case measure => simp [intOf]; omega
            case rel => exact ⟨k + 1, k + 1, v6, acc ++ [(fr, k)], rfl, by go_num, by go_num, by omega, HN.out, HNA.out⟩
          · have hfd : decide ((fr : Int) < (k : Int)) = false := decide_eq_false (by omega)
            have HNA : Hid ((k + 1 ≤ s.size ∧ AtW s SP (k + 1) (k + 1) acc) ∨ (k + 1 = s.size + 1 ∧ acc = SP)) := .inl ⟨by omega, HAT.out.skip hlt (by rw [sep_byte hlt, hc]; exact hsep) hff⟩
            clear hsep
            go_wp2_with (go_at_call 27; refine (HBL.out _).mono ?_; rintro e w7 ⟨rfl, h7⟩; obtain rfl := h7.symm; simp only [])
            go_roundw
            case measure => simp [intOf]; omega
            case rel => exact ⟨k + 1, k + 1, v, acc, rfl, by go_num, by go_num, by omega, HW.out, HNA.out⟩
        | false =>
          rw [hc10] at h10
          have HNA : Hid ((k + 1 ≤ s.size ∧ AtW s SP (k + 1) fr acc) ∨ (k + 1 = s.size + 1 ∧ acc = SP)) := .inl ⟨by omega, HAT.out.on hlt (by rw [sep_byte hlt, hc, hb, hc10]; rfl)⟩
          clear hb hc10
          go_wp2_with (go_at_call 27; refine (HBL.out _).mono ?_; rintro e w7 ⟨rfl, h7⟩; obtain rfl := h7.symm; simp only [])
          go_roundw
          case measure => simp [intOf]; omega
          case rel => exact ⟨k + 1, fr, v, acc, rfl, rfl, by go_num, by omega, HW.out, HNA.out⟩
end Go.Proofs.YtcjfpkfbdcmlbaaDoor
