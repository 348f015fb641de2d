import Derived.Test.YtafbheplaheohaaEN
namespace Go.Proofs.Ytafbheplaheohaa
open Go.RowKit
set_option linter.unusedVariables false

set_option maxRecDepth 100000 in
set_option maxHeartbeats 16000000 in
/-- A word between quotes. -/
theorem word_q {w : World} {rb a : Nat} {S : ByteArray} (d : Nat) (hd0 : 0 < d) (hd : d ≤ 40) (hr : Rr w rb S a 0) (ha : a ≤ S.size) (hS : S.size ≤ 16384) (ih : ∀ m, m < S.size - a → RWP m) :
    Calls Try.prog 28 #[.pointer (some ⟨rb, 0, none⟩), .bool true, .int .i64 d, .bool true] w (WordR w rb S d (allR (readC 2 true d ps0 (S.data.toList.drop a)))) := by
  obtain ⟨s, hs⟩ : ∃ s, S.data.toList.drop a = s := ⟨_, rfl⟩
  rw [hs]
  obtain ⟨Q, hQ⟩ : ∃ Q, WordR w rb S d (allR (readC 2 true d ps0 s)) = Q := ⟨_, rfl⟩
  rw [hQ]
  have HQ := Lib.hid hQ
  obtain ⟨Z, hZ⟩ : ∃ Z, 2 * S.size = Z := ⟨_, rfl⟩
  have hZ6 : Z ≤ 60000 := by omega
  have hrb : rb < w.heap.size := blk_lt hr
  have hd0I : (0 : Int) < (d : Int) := by omega
  have H0 : Hid (WGood w w rb S 2 true d Z s none 0 0 a [] [] ps0) := by
    refine ⟨⟨⟨hr, PRow.nil _ _, Only.refl _ _, hrb, Nat.le_refl _⟩, fun y hy => (by cases hy), Eqv.refl _, ?_, ha⟩, by rw [hs]⟩
    show 0 + 2 * (S.size - a) ≤ Z
    omega
  have HIH := Lib.hid ih
  have HOK : Hid (∀ wx va n c a' l L p, WGood w wx rb S 2 true d Z s va n c a' l L p → readC 2 true d p (S.data.toList.drop a') = .ok (p, S.data.toList.drop a') → Calls Try.prog 36 #[.slice va n c] wx fun e w' => ∃ va' n' c', e = .returned (.slice va' n' c') ∧ Q e w') := fun wx va n c a' l L p h h2 => (word_ok d h.1 hZ6).mono (by
    rintro e w' ⟨⟨va', n', c', e1⟩, h3⟩
    refine ⟨va', n', c', e1, ?_⟩
    rw [← HQ.out, h.2, h2]; exact h3)
  have HBD : Hid (∀ wx va n c a' l L x, WBad w wx rb S 2 true d Z s va n c a' l L x → Calls Try.prog 36 #[.slice va n c] wx fun e w' => ∃ va' n' c', e = .returned (.slice va' n' c') ∧ Q e w') := fun wx va n c a' l L x ⟨h1, h2, h3, h4, h5, h6⟩ => (word_bad d h1 h3 (by omega) (by omega)).mono (by
    rintro e w' ⟨⟨va', n', c', e1⟩, h7⟩
    refine ⟨va', n', c', e1, ?_⟩
    rw [← HQ.out, h6]; exact h7)
  clear hQ hr
  go_enter Try.func28, Try.ntmps28
  go_wp2_with fail
  go_loopw [9] (fun lv wx => ∃ va n c a' x l L p, lv = .slice va n c ∧ Hid ((x = 0 ∧ a ≤ a' ∧ WGood w wx rb S 2 true d Z s va n c a' l L p) ∨ WBad w wx rb S 2 true d Z s va n c a' l L x)) (fun _ wx => meaW rb wx)
  case atStart => exact ⟨none, 0, 0, a, 0, [], [], ps0, rfl, .inl ⟨rfl, Nat.le_refl _, H0.out⟩⟩
  case round =>
    obtain ⟨va, n, c, a', x, l, L, p, rfl, HR⟩ := hrel
    rcases HR.out with ⟨hx0, haa, hg⟩ | hb
    · subst hx0
      have HG := Lib.hid hg
      have hle := hg.1.le
      have q2 : wr.cell? ⟨rb, 2, none⟩ = some (.int .i64 ((0 : Nat) : Int)) := cell_of hg.1.rs.rr 2
      have HUN : Hid (∀ w5, Below wr.heap.size wr w5 → WGood w w5 rb S 2 true d Z s va n c a' l L p) := fun w5 h5 => ⟨HG.out.1.under h5, HG.out.2⟩
      clear hg
      by_cases hov : S.size ≤ a'
      · have HO1 := Lib.hid (over_seq HG.out.1.rs.rr true (decide_eq_true hov))
        have HEN : Hid (readC 2 true d p (S.data.toList.drop a') = .ok (p, S.data.toList.drop a')) := by rw [List.drop_of_length_le (by rw [dl]; exact hov)]; exact readC_nil
        clear hov
        go_wp2_with (first
          | (go_at_call 25; refine HO1.out.mono ?_; rintro e w5 ⟨rfl, h5⟩; have HG5 := Lib.hid (HUN.out _ h5); clear h5 q2; simp only [])
          | (go_at_call 36; refine (HOK.out _ _ _ _ _ _ _ _ HG5.out HEN.out).mono ?_; rintro e w6 ⟨va', n', c', rfl, h6⟩; have H6 := Lib.hid h6; clear h6; simp only []))
        exact H6.out
      · have hlt : a' < S.size := by omega
        have HO1 := Lib.hid (over_seq HG.out.1.rs.rr false (decide_eq_false hov))
        have hat := data_get S a' hlt
        obtain ⟨c0, hch⟩ : ∃ ch, S[a']'hlt = ch := ⟨_, rfl⟩
        rw [hch] at hat
        have hdr := at_drop hat
        have HDR := Lib.hid hdr
        have HSEE : Hid (∀ w5, WGood w w5 rb S 2 true d Z s va n c a' l L p → Calls Try.prog 26 #[.pointer (some ⟨rb, 0, none⟩), .int .i64 0] w5 fun e w' => e = .returned (.int .u8 c0.toNat) ∧ Below w5.heap.size w5 w') := fun w5 h => see_seq h.1.rs.rr 0 0 a' rfl rfl (by omega) (by omega) (seeF_head hdr)
        by_cases e125 : c0 = 125
        · have n125 : (c0.toNat : Int) = 125 := by rw [e125]; rfl
          have HEN : Hid (readC 2 true d p (S.data.toList.drop a') = .ok (p, S.data.toList.drop a')) := by rw [hdr, e125]; exact readC_end rfl
          clear hov hat hch hdr e125
          go_wp2_with (first
            | (go_at_call 25; refine HO1.out.mono ?_; rintro e w5 ⟨rfl, h5⟩; have HG5 := Lib.hid (HUN.out _ h5); clear h5 q2; simp only [])
            | (go_at_call 26; (with_reducible refine (HSEE.out _ HG5.out).mono ?_); rintro e w6 ⟨rfl, h6⟩; have HG6 : Hid (WGood w w6 rb S 2 true d Z s va n c a' l L p) := ⟨HG5.out.1.under h6, HG5.out.2⟩; clear h6; simp only [])
            | (go_at_call 36; refine (HOK.out _ _ _ _ _ _ _ _ HG6.out HEN.out).mono ?_; rintro e w6 ⟨va', n', c', rfl, h6⟩; have H6 := Lib.hid h6; clear h6; simp only []))
          exact H6.out
        · have n125 : ¬ ((c0.toNat : Int) = 125) := fun e => e125 (UInt8.toNat_inj.1 (by have : ((125 : UInt8).toNat : Int) = 125 := rfl; omega))
          have z125 : ((c0.toNat : Int) == 125) = false := beq_eq_false_iff_ne.2 n125
          have HIN := Lib.hid (readC_in (e := 2) (d := d) (p := p) (c := c0) (r := S.data.toList.drop (a' + 1)) (by show (c0 == 125) = false; exact beq_eq_false_iff_ne.2 e125))
          rw [← hdr] at HIN
          have HNN : Hid (∀ w5, WGood w w5 rb S 2 true d Z s va n c a' l L p → Calls Try.prog 38 #[.pointer (some ⟨rb, 0, none⟩), .slice va n c, .int .i64 d] w5 (RStep w rb w.heap.size S d Z (innerF d p (S.data.toList.drop a')))) := fun w5 h => RInner_any d hd h.1 hlt hZ6 hS (fun m hm => HIH.out m (by omega))
          have HLEN : Hid (∀ p2 t, innerF d p (S.data.toList.drop a') = .ok (p2, t) → t.length ≤ S.size - (a' + 1)) := fun p2 t h => by
            rw [HDR.out] at h
            have := innerF_len h
            rw [List.length_drop, dl] at this; exact this
          have HEQ : Hid (readC 2 true d ps0 s = readC 2 true d p (S.data.toList.drop a')) := HG.out.2
          clear hov hat hch hdr e125
          go_wp2_with (first
            | (go_at_call 25; refine HO1.out.mono ?_; rintro e w5 ⟨rfl, h5⟩; have HG5 := Lib.hid (HUN.out _ h5); clear h5 q2; simp only [])
            | (go_at_call 26; (with_reducible refine (HSEE.out _ HG5.out).mono ?_); rintro e w6 ⟨rfl, h6⟩; have HG6 : Hid (WGood w w6 rb S 2 true d Z s va n c a' l L p) := ⟨HG5.out.1.under h6, HG5.out.2⟩; clear h6; simp only [])
            | (go_at_call 38; refine (HNN.out _ HG6.out).mono ?_; rintro e w7 ⟨va7, n7, c7, l7, L7, a7, x7, rfl, hrs7, hok7, hm7⟩; have HRS7 := Lib.hid hrs7; have HOK7 := Lib.hid hok7; have HM7 := Lib.hid hm7; clear hrs7 hok7 hm7; simp only []))
          cases hI : innerF d p (S.data.toList.drop a') with
          | error y =>
            rw [hI] at HM7 HIN
            have HB7 : Hid (WBad w w7 rb S 2 true d Z s va7 n7 c7 a7 l7 L7 x7) := by
              obtain ⟨e1, e2, e3, e4⟩ := HM7.out
              subst e1
              exact ⟨HRS7.out, HOK7.out, e2, by omega, e4, HEQ.out.trans HIN.out⟩
            clear hI
            go_roundw
            case measure => rw [meaW_bad HB7.out.1.rr HB7.out.2.2.1, meaW_ok HG.out.1.rs.rr]; omega
            case rel => exact ⟨va7, n7, c7, a7, x7, l7, L7, p, rfl, .inr HB7.out⟩
          | ok z =>
            obtain ⟨p2, t⟩ := z
            rw [hI] at HM7 HIN
            have hl := HLEN.out p2 t hI
            have HG7 : Hid (x7 = 0 ∧ a' < a7 ∧ a7 ≤ S.size ∧ WGood w w7 rb S 2 true d Z s va7 n7 c7 a7 l7 L7 p2) := by
              obtain ⟨e1, e2, e3, e4, e5⟩ := HM7.out
              subst e1
              have h9 := congrArg List.length e3
              rw [List.length_drop, dl] at h9
              exact ⟨rfl, by omega, e2, ⟨HRS7.out, HOK7.out, e4, e5, e2⟩, by rw [HEQ.out, HIN.out, e3]⟩
            clear hI hl
            go_roundw
            case measure => rw [meaW_ok HG7.out.2.2.2.1.rs.rr, meaW_ok HG.out.1.rs.rr]; have := HG7.out.2.1; omega
            case rel => exact ⟨va7, n7, c7, a7, 0, l7, L7, p2, rfl, .inl ⟨rfl, by have := HG7.out.2.1; omega, HG7.out.2.2.2⟩⟩
    · have HB := Lib.hid hb
      obtain ⟨h1, h2, h3, h4, h5, h6⟩ := hb
      have q2 : wr.cell? ⟨rb, 2, none⟩ = some (.int .i64 x) := cell_of h1.rr 2
      have hxz : ((x : Int) == 0) = false := beq_eq_false_iff_ne.2 (by omega)
      have hxn : ¬ ((x : Int) = 0) := by omega
      clear h1 h2 h3 h4 h5 h6
      go_wp2_with (go_at_call 36; refine (HBD.out _ _ _ _ _ _ _ _ HB.out).mono ?_; rintro e w6 ⟨va', n', c', rfl, h6⟩; have H6 := Lib.hid h6; clear h6; simp only [])
      exact H6.out
end Go.Proofs.Ytafbheplaheohaa
