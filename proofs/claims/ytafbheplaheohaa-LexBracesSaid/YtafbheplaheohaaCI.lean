import Derived.Test.YtafbheplaheohaaCF
import Derived.Test.YtafbheplaheohaaCH
namespace Go.Proofs.Ytafbheplaheohaa
open Go.RowKit
set_option linter.unusedVariables false

def SayPq (w : World) (e : Ending) (w' : World) : Prop := e = .returned (.bool true) ∧ Below w.heap.size w w'
theorem quote_of {two : Bool} {s : ByteArray} (h : ∀ j, j < s.size → ∀ c, s.data.toList[j]? = some c → QuoteOk two [c]) : QuoteOk two s.data.toList := fun c hc => by
  obtain ⟨j, hj, e⟩ := List.getElem_of_mem hc
  exact h j (by rw [← dl]; exact hj) c (by rw [← e]; exact List.getElem?_eq_getElem hj) c (by simp)
theorem quote_nil {two : Bool} {s : ByteArray} : ∀ j, j < 0 → ∀ c, s.data.toList[j]? = some c → QuoteOk two [c] := fun j hj => absurd hj (by omega)
theorem quote_succ {two : Bool} {s : ByteArray} {k : Nat} (h : ∀ j, j < k → ∀ c, s.data.toList[j]? = some c → QuoteOk two [c]) {d : UInt8} (hd : s.data.toList[k]? = some d) (hq : QuoteOk two [d]) : ∀ j, j < k + 1 → ∀ c, s.data.toList[j]? = some c → QuoteOk two [c] := fun j hj c hc => by
  by_cases e : j = k
  · subst e; rw [hd] at hc; cases hc; exact hq
  · exact h j (by omega) c hc
theorem same_txt2 {w w' : World} {F : Nat → Prop} {wa : Option Addr} {wc : Nat} (k : Nat) (ki : Int) (hk : ki = (k : Int)) (t : ByteArray) (h : Wd w F (.slice wa 1 wc) [txt k t.data.toList])
    (hb : Below (w.heap.size + 1) (w.alloc (.cells #[.int .i64 ki, .string t, .string ⟨#[]⟩, .string ⟨#[]⟩, .slice none 0 0, .bool false] 39)) w') :
    Calls Try.prog 18 #[.slice wa 1 wc, .slice (some ⟨w.heap.size, 0, none⟩) 1 1] w' fun e w'' => e = .returned (.bool true) ∧ Below (w.heap.size + 1) (w.alloc (.cells #[.int .i64 ki, .string t, .string ⟨#[]⟩, .string ⟨#[]⟩, .slice none 0 0, .bool false] 39)) w'' := by
  have hbe := (Below.refl w.heap.size w).alloc (Nat.le_refl _) (.cells #[.int .i64 ki, .string t, .string ⟨#[]⟩, .string ⟨#[]⟩, .slice none 0 0, .bool false] 39)
  have hb2 : Below w.heap.size w w' := hbe.trans (hb.mono (by omega))
  have hnew := heap_alloc_new w (.cells #[.int .i64 ki, .string t, .string ⟨#[]⟩, .string ⟨#[]⟩, .slice none 0 0, .bool false] 39)
  refine (Same_eq (m := [txt k t.data.toList]) (G := fun _ => True) (by rw [wsz_txt]; decide) (h.under hb2) (Wd.one (pt := ⟨ki, t, ⟨#[]⟩, ⟨#[]⟩, .slice none 0 0, false⟩) trivial ((hb.block _ (by omega)).trans hnew) ⟨hk, rfl, rfl, rfl, rfl⟩ (.nil 0))).mono ?_
  rintro e w'' ⟨rfl, h⟩
  exact ⟨rfl, hb.trans (h.mono (by have := hb.size; rw [size_alloc] at this; omega))⟩
theorem not_of_false {b : Bool} (h : b = false) : ¬ b = true := by rw [h]; decide
theorem after_new {w w' : World} {o : Obj} (h : Below (w.heap.size + 1) (w.alloc o) w') : Below w.heap.size w w' := ((Below.refl w.heap.size w).alloc (Nat.le_refl _) o).trans (h.mono (by omega))
set_option maxRecDepth 100000 in
set_option maxHeartbeats 8000000 in
theorem quotes_walk (s : ByteArray) (two : Bool) (w : World) (hs : s.size ≤ maxLen) : Calls Try.prog 5 #[.string s, .bool two] w (SayPq w) := by
  obtain ⟨Q, hQ⟩ : ∃ Q, SayPq w = Q := ⟨_, rfl⟩
  rw [hQ]
  have HQ := Lib.hid hQ
  have HA := Lib.hid (alive_any w)
  clear hQ
  by_cases hl : 300 < s.size
  · have hlI : (300 : Int) < (s.size : Int) := by omega
    have hld : decide ((300 : Int) < (s.size : Int)) = true := decide_eq_true hlI
    go_enter Try.func5, Try.ntmps5
    go_wp2_with (go_at_call 12; refine HA.out.mono ?_; rintro e w1 ⟨rfl, h1⟩; have H1 := Lib.hid h1; clear h1; simp only [])
    rw [← HQ.out]; exact ⟨rfl, H1.out⟩
  have hlI : ¬ (300 : Int) < (s.size : Int) := by omega
  have hld : decide ((300 : Int) < (s.size : Int)) = false := decide_eq_false hlI
  have hsl : s.size ≤ 300 := by omega
  cases two with
  | false =>
    go_enter Try.func5, Try.ntmps5
    go_wp2_with (go_at_call 12; refine HA.out.mono ?_; rintro e w1 ⟨rfl, h1⟩; have H1 := Lib.hid h1; clear h1; simp only [])
    go_loopw [6] (fun i wx => ∃ k : Nat, k ≤ s.size ∧ i = .int .i64 k ∧ wx = w1 ∧ Hid (∀ j, j < k → ∀ c, s.data.toList[j]? = some c → QuoteOk false [c])) (fun i _ => s.size - (intOf i).toNat)
    case atStart => exact ⟨0, Nat.zero_le _, rfl, rfl, quote_nil⟩
    case round =>
      obtain ⟨k, hk, rfl, rfl, HL⟩ := hrel
      by_cases hlt : k < s.size
      · have hltI : (k : Int) < (s.size : Int) := by omega
        have hltd : decide ((k : Int) < (s.size : Int)) = true := decide_eq_true hltI
        have hk0 : (0 : Int) ≤ (k : Int) := by omega
        have hat := data_get s k hlt
        obtain ⟨d, hd⟩ : ∃ d, s[k]'hlt = d := ⟨_, rfl⟩
        rw [hd] at hat
        have HAT := Lib.hid hat
        clear hat
        have HOK : Hid (d ≠ 0 → d ≠ 39 → (false = true → d ≠ 34 ∧ d ≠ 92 ∧ d ≠ 36 ∧ d ≠ 96) → QuoteOk false [d]) := fun h1 h2 h3 x hx => by simp at hx; subst hx; exact ⟨h1, h2, h3⟩
        have h0 := byte_eq d 0
        rw [show ((0 : UInt8).toNat : Int) = 0 from rfl] at h0
        obtain ⟨z0, hz0⟩ : ∃ z, (d == 0) = z := ⟨_, rfl⟩
        rw [hz0] at h0
        have HZ0 := Lib.hid hz0
        clear hz0
        have h39 := byte_eq d 39
        rw [show ((39 : UInt8).toNat : Int) = 39 from rfl] at h39
        obtain ⟨z39, hz39⟩ : ∃ z, (d == 39) = z := ⟨_, rfl⟩
        rw [hz39] at h39
        have HZ39 := Lib.hid hz39
        clear hz39
        go_wp2_with fail
        all_goals first
          | (rw [← HQ.out]; exact ⟨rfl, H1.out⟩)
          | (go_roundw
             case measure => simp [intOf]; omega
             case rel => exact ⟨k + 1, by omega, by go_num, trivial, quote_succ HL.out HAT.out (HOK.out (fun e => (by first | assumption | exact not_of_false (by assumption) : ¬ z0 = true) (by rw [← HZ0.out, e]; rfl)) (fun e => (by first | assumption | exact not_of_false (by assumption) : ¬ z39 = true) (by rw [← HZ39.out, e]; rfl)) (fun e => by cases e))⟩)
      · obtain rfl : k = s.size := by omega
        have hltd : decide ((s.size : Int) < (s.size : Int)) = false := decide_eq_false (by omega)
        have HQO := Lib.hid (quote_of HL.out)
        have HQT := Lib.hid (quote_tokens HQO.out (by rw [dl]; exact hsl))
        have HT1 : Hid (∀ (S : ByteArray) (w' : World), S.data.toList = 39 :: (s.data.toList ++ [39]) → Calls Try.prog 13 #[.string S] w' fun e w'' => ∃ b off c' wa wc F, e = .returned (.tuple #[.slice (some ⟨b, off, none⟩) 1 c', .int .i64 0]) ∧ b < w''.heap.size ∧ w''.cell? ⟨b, off + 2, none⟩ = some (.slice wa 1 wc) ∧ Wd w'' F (.slice wa 1 wc) [txt 2 s.data.toList] ∧ Below w'.heap.size w' w'') := fun S w' hS => by
          refine Tokens_word S w' (m := [txt 2 s.data.toList]) (by have := congrArg List.length hS; rw [dl] at this; simp at this; omega) ?_
          rw [hS]; exact HQT.out.1
        have HW : Hid (∀ (S : ByteArray) (w' : World), S.data.toList = 39 :: (s.data.toList ++ [39]) → Calls Try.prog 17 #[.string S] w' fun e w'' => ∃ wa wc F, e = .returned (.tuple #[.slice wa 1 wc, .int .i64 0]) ∧ Wd w'' F (.slice wa 1 wc) [txt 2 s.data.toList] ∧ Below w'.heap.size w' w'') := fun S w' hS => by
          refine (Word_ok S w' (l := [txt 2 s.data.toList]) (by have := congrArg List.length hS; rw [dl] at this; simp at this; omega) (by rw [hS]; exact HQT.out.2.1)).mono ?_
          rintro e w'' ⟨a, c, rfl, h1, h2⟩
          exact ⟨a, c, _, rfl, h1, h2⟩
        have HT2 : Hid (∀ (S : ByteArray) (w' : World), S.data.toList = 39 :: s.data.toList → Calls Try.prog 13 #[.string S] w' fun e w'' => e = .returned (.tuple #[.slice none 0 0, .int .i64 2]) ∧ Below w'.heap.size w' w'') := fun S w' hS => 
          Tokens_err S w' (by have := congrArg List.length hS; rw [dl] at this; simp at this; omega) (by rw [hS]; exact HQT.out.2.2)
        clear hlt
        go_wp2_with (first
          | (go_at_call 15; refine (num_any _ _).mono ?_; rintro e w9 ⟨rfl, h9⟩; obtain rfl := h9.symm; simp only [])
          | (go_at_call 13
             refine (HT1.out _ _ ?_).mono ?_
             · simp
             rintro e w5 ⟨b, off, c', wa, wc, F, rfl, hb, q2, hwd, h2⟩
             have H5 := Lib.hid h2
             have HWD := Lib.hid hwd
             clear hwd h2
             simp only [])
          | (go_at_call 17
             refine (HW.out _ _ ?_).mono ?_
             · simp
             rintro e w6 ⟨wa2, wc2, F2, rfl, hwd, h2⟩
             have H6 := Lib.hid h2
             have HWD2 := Lib.hid hwd
             clear hwd h2
             simp only [])
          | (go_at_call 13
             refine (HT2.out _ _ ?_).mono ?_
             · simp
             rintro e w7 ⟨rfl, h2⟩
             have h67 := H6.out.trans (h2.mono H6.out.size)
             have q27 := cell_under h67 hb q2
             have hb7 : b < w7.heap.size := Nat.lt_of_lt_of_le hb h67.size
             have HS1 := Lib.hid (fun w' hw => same_txt2 (w' := w') 2 2 rfl s (HWD.out.under h67) hw)
             have HS2 := Lib.hid (fun w' hw => same_txt2 (w' := w') 2 2 rfl s (HWD2.out.under h2) hw)
             have HB7 := Lib.hid (H5.out.trans (h67.mono H5.out.size))
             have ad0 := addn b off 0
             rw [Nat.add_zero] at ad0
             clear h2 h67 q2
             simp only [])
          | (go_at_call 18
             (with_reducible refine (HS1.out _ (Below.refl _ _)).mono ?_)
             rintro e w8 ⟨rfl, h2⟩
             have H8 := Lib.hid h2
             clear h2
             simp only [])
          | (go_at_call 18
             (with_reducible refine (HS2.out _ H8.out).mono ?_)
             rintro e w9 ⟨rfl, h2⟩
             have H9 := Lib.hid h2
             clear h2
             simp only []))
        rw [← HQ.out]
        exact ⟨rfl, H1.out.trans ((HB7.out.trans ((after_new H9.out).mono HB7.out.size)).mono H1.out.size)⟩
  | true =>
    go_enter Try.func5, Try.ntmps5
    go_wp2_with (go_at_call 12; refine HA.out.mono ?_; rintro e w1 ⟨rfl, h1⟩; have H1 := Lib.hid h1; clear h1; simp only [])
    go_loopw [6] (fun i wx => ∃ k : Nat, k ≤ s.size ∧ i = .int .i64 k ∧ wx = w1 ∧ Hid (∀ j, j < k → ∀ c, s.data.toList[j]? = some c → QuoteOk true [c])) (fun i _ => s.size - (intOf i).toNat)
    case atStart => exact ⟨0, Nat.zero_le _, rfl, rfl, quote_nil⟩
    case round =>
      obtain ⟨k, hk, rfl, rfl, HL⟩ := hrel
      by_cases hlt : k < s.size
      · have hltI : (k : Int) < (s.size : Int) := by omega
        have hltd : decide ((k : Int) < (s.size : Int)) = true := decide_eq_true hltI
        have hk0 : (0 : Int) ≤ (k : Int) := by omega
        have hat := data_get s k hlt
        obtain ⟨d, hd⟩ : ∃ d, s[k]'hlt = d := ⟨_, rfl⟩
        rw [hd] at hat
        have HAT := Lib.hid hat
        clear hat
        have HOK : Hid (d ≠ 0 → d ≠ 39 → (true = true → d ≠ 34 ∧ d ≠ 92 ∧ d ≠ 36 ∧ d ≠ 96) → QuoteOk true [d]) := fun h1 h2 h3 x hx => by simp at hx; subst hx; exact ⟨h1, h2, h3⟩
        have h0 := byte_eq d 0
        rw [show ((0 : UInt8).toNat : Int) = 0 from rfl] at h0
        obtain ⟨z0, hz0⟩ : ∃ z, (d == 0) = z := ⟨_, rfl⟩
        rw [hz0] at h0
        have HZ0 := Lib.hid hz0
        clear hz0
        have h39 := byte_eq d 39
        rw [show ((39 : UInt8).toNat : Int) = 39 from rfl] at h39
        obtain ⟨z39, hz39⟩ : ∃ z, (d == 39) = z := ⟨_, rfl⟩
        rw [hz39] at h39
        have HZ39 := Lib.hid hz39
        clear hz39
        have h34 := byte_eq d 34
        rw [show ((34 : UInt8).toNat : Int) = 34 from rfl] at h34
        obtain ⟨z34, hz34⟩ : ∃ z, (d == 34) = z := ⟨_, rfl⟩
        rw [hz34] at h34
        have HZ34 := Lib.hid hz34
        clear hz34
        have h92 := byte_eq d 92
        rw [show ((92 : UInt8).toNat : Int) = 92 from rfl] at h92
        obtain ⟨z92, hz92⟩ : ∃ z, (d == 92) = z := ⟨_, rfl⟩
        rw [hz92] at h92
        have HZ92 := Lib.hid hz92
        clear hz92
        have h36 := byte_eq d 36
        rw [show ((36 : UInt8).toNat : Int) = 36 from rfl] at h36
        obtain ⟨z36, hz36⟩ : ∃ z, (d == 36) = z := ⟨_, rfl⟩
        rw [hz36] at h36
        have HZ36 := Lib.hid hz36
        clear hz36
        have h96 := byte_eq d 96
        rw [show ((96 : UInt8).toNat : Int) = 96 from rfl] at h96
        obtain ⟨z96, hz96⟩ : ∃ z, (d == 96) = z := ⟨_, rfl⟩
        rw [hz96] at h96
        have HZ96 := Lib.hid hz96
        clear hz96
        go_wp2_with fail
        all_goals first
          | (rw [← HQ.out]; exact ⟨rfl, H1.out⟩)
          | (go_roundw
             case measure => simp [intOf]; omega
             case rel => exact ⟨k + 1, by omega, by go_num, trivial, quote_succ HL.out HAT.out (HOK.out (fun e => (by first | assumption | exact not_of_false (by assumption) : ¬ z0 = true) (by rw [← HZ0.out, e]; rfl)) (fun e => (by first | assumption | exact not_of_false (by assumption) : ¬ z39 = true) (by rw [← HZ39.out, e]; rfl)) (fun _ => ⟨(fun e => (by first | assumption | exact not_of_false (by assumption) : ¬ z34 = true) (by rw [← HZ34.out, e]; rfl)), (fun e => (by first | assumption | exact not_of_false (by assumption) : ¬ z92 = true) (by rw [← HZ92.out, e]; rfl)), (fun e => (by first | assumption | exact not_of_false (by assumption) : ¬ z36 = true) (by rw [← HZ36.out, e]; rfl)), (fun e => (by first | assumption | exact not_of_false (by assumption) : ¬ z96 = true) (by rw [← HZ96.out, e]; rfl))⟩))⟩)
      · obtain rfl : k = s.size := by omega
        have hltd : decide ((s.size : Int) < (s.size : Int)) = false := decide_eq_false (by omega)
        have HQO := Lib.hid (quote_of HL.out)
        have HQT := Lib.hid (quote_tokens HQO.out (by rw [dl]; exact hsl))
        have HT1 : Hid (∀ (S : ByteArray) (w' : World), S.data.toList = 34 :: (s.data.toList ++ [34]) → Calls Try.prog 13 #[.string S] w' fun e w'' => ∃ b off c' wa wc F, e = .returned (.tuple #[.slice (some ⟨b, off, none⟩) 1 c', .int .i64 0]) ∧ b < w''.heap.size ∧ w''.cell? ⟨b, off + 2, none⟩ = some (.slice wa 1 wc) ∧ Wd w'' F (.slice wa 1 wc) [txt 2 s.data.toList] ∧ Below w'.heap.size w' w'') := fun S w' hS => by
          refine Tokens_word S w' (m := [txt 2 s.data.toList]) (by have := congrArg List.length hS; rw [dl] at this; simp at this; omega) ?_
          rw [hS]; exact HQT.out.1
        have HW : Hid (∀ (S : ByteArray) (w' : World), S.data.toList = 34 :: (s.data.toList ++ [34]) → Calls Try.prog 17 #[.string S] w' fun e w'' => ∃ wa wc F, e = .returned (.tuple #[.slice wa 1 wc, .int .i64 0]) ∧ Wd w'' F (.slice wa 1 wc) [txt 2 s.data.toList] ∧ Below w'.heap.size w' w'') := fun S w' hS => by
          refine (Word_ok S w' (l := [txt 2 s.data.toList]) (by have := congrArg List.length hS; rw [dl] at this; simp at this; omega) (by rw [hS]; exact HQT.out.2.1)).mono ?_
          rintro e w'' ⟨a, c, rfl, h1, h2⟩
          exact ⟨a, c, _, rfl, h1, h2⟩
        have HT2 : Hid (∀ (S : ByteArray) (w' : World), S.data.toList = 34 :: s.data.toList → Calls Try.prog 13 #[.string S] w' fun e w'' => e = .returned (.tuple #[.slice none 0 0, .int .i64 2]) ∧ Below w'.heap.size w' w'') := fun S w' hS => 
          Tokens_err S w' (by have := congrArg List.length hS; rw [dl] at this; simp at this; omega) (by rw [hS]; exact HQT.out.2.2)
        clear hlt
        go_wp2_with (first
          | (go_at_call 15; refine (num_any _ _).mono ?_; rintro e w9 ⟨rfl, h9⟩; obtain rfl := h9.symm; simp only [])
          | (go_at_call 13
             refine (HT1.out _ _ ?_).mono ?_
             · simp
             rintro e w5 ⟨b, off, c', wa, wc, F, rfl, hb, q2, hwd, h2⟩
             have H5 := Lib.hid h2
             have HWD := Lib.hid hwd
             clear hwd h2
             simp only [])
          | (go_at_call 17
             refine (HW.out _ _ ?_).mono ?_
             · simp
             rintro e w6 ⟨wa2, wc2, F2, rfl, hwd, h2⟩
             have H6 := Lib.hid h2
             have HWD2 := Lib.hid hwd
             clear hwd h2
             simp only [])
          | (go_at_call 13
             refine (HT2.out _ _ ?_).mono ?_
             · simp
             rintro e w7 ⟨rfl, h2⟩
             have h67 := H6.out.trans (h2.mono H6.out.size)
             have q27 := cell_under h67 hb q2
             have hb7 : b < w7.heap.size := Nat.lt_of_lt_of_le hb h67.size
             have HS1 := Lib.hid (fun w' hw => same_txt2 (w' := w') 2 2 rfl s (HWD.out.under h67) hw)
             have HS2 := Lib.hid (fun w' hw => same_txt2 (w' := w') 2 2 rfl s (HWD2.out.under h2) hw)
             have HB7 := Lib.hid (H5.out.trans (h67.mono H5.out.size))
             have ad0 := addn b off 0
             rw [Nat.add_zero] at ad0
             clear h2 h67 q2
             simp only [])
          | (go_at_call 18
             (with_reducible refine (HS1.out _ (Below.refl _ _)).mono ?_)
             rintro e w8 ⟨rfl, h2⟩
             have H8 := Lib.hid h2
             clear h2
             simp only [])
          | (go_at_call 18
             (with_reducible refine (HS2.out _ H8.out).mono ?_)
             rintro e w9 ⟨rfl, h2⟩
             have H9 := Lib.hid h2
             clear h2
             simp only []))
        rw [← HQ.out]
        exact ⟨rfl, H1.out.trans ((HB7.out.trans ((after_new H9.out).mono HB7.out.size)).mono H1.out.size)⟩
end Go.Proofs.Ytafbheplaheohaa
