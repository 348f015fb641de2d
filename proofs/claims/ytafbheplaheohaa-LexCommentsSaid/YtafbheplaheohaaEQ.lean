import Derived.Test.YtafbheplaheohaaEP
namespace Go.Proofs.Ytafbheplaheohaa
open Go.RowKit
set_option linter.unusedVariables false

theorem RIn.textA {w wx w' : World} {rb B : Nat} {S : ByteArray} {a a2 : Nat} {v v' : Value} {l : List Prt} {L L2 : List Pt} {p : PS} {Z k : Nat} {t : Bz} (h : RIn w wx rb B S a v l L p Z) (h2 : RS w w' rb B S a2 0 v' (l ++ [txt k t]) L2) (hk : k = 1 ∨ k = 2) (ht : t ≠ []) (ha : a2 ≤ S.size) (hz : SZ l + 1 + t.length + 2 * (S.size - a2) ≤ Z) : RIn w w' rb B S a2 v' (l ++ [txt k t]) L2 (p.put k t) Z := by
  refine ⟨h2, fun z hz => ?_, ?_, ?_, ha⟩
  · rcases List.mem_append.1 hz with hz | hz
    · exact h.ok z hz
    · simp at hz; rw [hz]; exact rawok_txt (fun _ => ht)
  · rw [tidyS_app]; exact h.eqv.text hk ht
  · rw [SZ_app]; exact hz
theorem RIn.singleA {w wx w' : World} {rb B : Nat} {S : ByteArray} {a a2 : Nat} {v v' : Value} {l : List Prt} {L L2 : List Pt} {p : PS} {Z : Nat} {t : Bz} (h : RIn w wx rb B S a v l L p Z) (h2 : RS w w' rb B S a2 0 v' (l ++ [txt 2 t]) L2) (ha : a2 ≤ S.size) (hz : SZ l + 1 + t.length + 2 * (S.size - a2) ≤ Z) : RIn w w' rb B S a2 v' (l ++ [txt 2 t]) L2 (p.mark.put 2 t) Z := by
  refine ⟨h2, fun z hz => ?_, ?_, ?_, ha⟩
  · rcases List.mem_append.1 hz with hz | hz
    · exact h.ok z hz
    · simp at hz; rw [hz]; exact rawok_txt (fun e => absurd e (by decide))
  · rw [tidyS_app]; exact h.eqv.single t
  · rw [SZ_app]; exact hz
theorem RIn.voidA {w wx w' : World} {rb B : Nat} {S : ByteArray} {a a2 : Nat} {v v' : Value} {l : List Prt} {L L2 : List Pt} {p : PS} {Z : Nat} (h : RIn w wx rb B S a v l L p Z) (h2 : RS w w' rb B S a2 0 v' (l ++ [txt 2 []]) L2) (ha : a2 ≤ S.size) (hz : SZ l + 1 + 2 * (S.size - a2) ≤ Z) : RIn w w' rb B S a2 v' (l ++ [txt 2 []]) L2 p.mark Z := by
  refine ⟨h2, fun z hz => ?_, ?_, ?_, ha⟩
  · rcases List.mem_append.1 hz with hz | hz
    · exact h.ok z hz
    · simp at hz; rw [hz]; exact rawok_txt (fun e => absurd e (by decide))
  · rw [tidyS_app]; exact h.eqv.void
  · rw [SZ_app]; exact hz
def QGoodA (w wx : World) (rb : Nat) (S : ByteArray) (d Z : Nat) (p0 : PS) (m : Nat) (va : Option Addr) (n c a' : Nat) (l : List Prt) (L : List Pt) (p : PS) : Prop :=
  RIn w wx rb w.heap.size S a' (.slice va n c) l L p Z ∧ readC 3 true d p0 (S.data.toList.drop m) = readC 3 true d p (S.data.toList.drop a')
def QBadA (w wx : World) (rb : Nat) (S : ByteArray) (d Z : Nat) (p0 : PS) (m : Nat) (va : Option Addr) (n c a' : Nat) (l : List Prt) (L : List Pt) (x : Nat) : Prop :=
  RS w wx rb w.heap.size S a' x (.slice va n c) l L ∧ (∀ y ∈ l, RawOk y) ∧ x ≠ 0 ∧ a' ≤ EAt d + 30 ∧ SZ l ≤ Z + 2 ∧ readC 3 true d p0 (S.data.toList.drop m) = .error x
set_option maxRecDepth 100000 in
set_option maxHeartbeats 16000000 in
theorem word_A {w : World} {rb a : Nat} {S : ByteArray} (d : Nat) (hd0 : 0 < d) (hd : d ≤ 40) (hr : Rr w rb S a 0) (ha : a ≤ S.size) (hS : S.size ≤ 16384) (ih : ∀ m, m < S.size - a → RWP m) :
    Calls Try.prog 28 #[.pointer (some ⟨rb, 0, none⟩), .bool true, .int .i64 d, .bool false] w (WordR w rb S d (allR (readC 2 false d ps0 (S.data.toList.drop a)))) := by
  obtain ⟨s, hs⟩ : ∃ s, S.data.toList.drop a = s := ⟨_, rfl⟩
  rw [hs]
  obtain ⟨Q, hQ⟩ : ∃ Q, WordR w rb S d (allR (readC 2 false d ps0 s)) = Q := ⟨_, rfl⟩
  rw [hQ]
  have HQ := Lib.hid hQ
  obtain ⟨Z, hZ⟩ : ∃ Z, 2 * S.size = Z := ⟨_, rfl⟩
  have hZ6 : Z ≤ 60000 := by omega
  have hrb : rb < w.heap.size := blk_lt hr
  have hd0I : (0 : Int) < (d : Int) := by omega
  have H0 : Hid (WGood w w rb S 2 false d Z s none 0 0 a [] [] ps0) := by
    refine ⟨⟨⟨hr, PRow.nil _ _, Only.refl _ _, hrb, Nat.le_refl _⟩, fun y hy => (by cases hy), Eqv.refl _, ?_, ha⟩, by rw [hs]⟩
    show 0 + 2 * (S.size - a) ≤ Z
    omega
  have HIH := Lib.hid ih
  have HOK : Hid (∀ wx va n c a' l L p, WGood w wx rb S 2 false d Z s va n c a' l L p → readC 2 false d p (S.data.toList.drop a') = .ok (p, S.data.toList.drop a') → Calls Try.prog 36 #[.slice va n c] wx fun e w' => ∃ va' n' c', e = .returned (.slice va' n' c') ∧ Q e w') := fun wx va n c a' l L p h h2 => (word_ok d h.1 hZ6).mono (by
    rintro e w' ⟨⟨va', n', c', e1⟩, h3⟩
    refine ⟨va', n', c', e1, ?_⟩
    rw [← HQ.out, h.2, h2]; exact h3)
  have HBD : Hid (∀ wx va n c a' l L x, WBad w wx rb S 2 false d Z s va n c a' l L x → Calls Try.prog 36 #[.slice va n c] wx fun e w' => ∃ va' n' c', e = .returned (.slice va' n' c') ∧ Q e w') := fun wx va n c a' l L x ⟨h1, h2, h3, h4, h5, h6⟩ => (word_bad d h1 h3 (by omega) (by omega)).mono (by
    rintro e w' ⟨⟨va', n', c', e1⟩, h7⟩
    refine ⟨va', n', c', e1, ?_⟩
    rw [← HQ.out, h6]; exact h7)
  clear hQ hr
  go_enter Try.func28, Try.ntmps28
  go_wp2_with fail
  go_loopw [9] (fun lv wx => ∃ va n c a' x l L p, lv = .slice va n c ∧ Hid ((x = 0 ∧ a ≤ a' ∧ WGood w wx rb S 2 false d Z s va n c a' l L p) ∨ WBad w wx rb S 2 false d Z s va n c a' l L x)) (fun _ wx => meaW rb wx)
  case atStart => exact ⟨none, 0, 0, a, 0, [], [], ps0, rfl, .inl ⟨rfl, Nat.le_refl _, H0.out⟩⟩
  case round =>
    obtain ⟨va, n, c, a', x, l, L, p, rfl, HR⟩ := hrel
    rcases HR.out with ⟨hx0, haa, hg⟩ | hb
    · subst hx0
      have HG := Lib.hid hg
      have hle := hg.1.le
      have hsz := hg.1.sz
      have q2 : wr.cell? ⟨rb, 2, none⟩ = some (.int .i64 ((0 : Nat) : Int)) := cell_of hg.1.rs.rr 2
      have HUN : Hid (∀ w5, Below wr.heap.size wr w5 → WGood w w5 rb S 2 false d Z s va n c a' l L p) := fun w5 h5 => ⟨HG.out.1.under h5, HG.out.2⟩
      clear hg
      by_cases hov : S.size ≤ a'
      · have HO1 := Lib.hid (over_seq HG.out.1.rs.rr true (decide_eq_true hov))
        have HEN : Hid (readC 2 false d p (S.data.toList.drop a') = .ok (p, S.data.toList.drop a')) := by rw [List.drop_of_length_le (by rw [dl]; exact hov)]; exact readC_nil
        clear hov
        go_wp2_with (first
          | (go_at_call 25; (with_reducible refine HO1.out.mono ?_); rintro e w5 ⟨rfl, h5⟩; have HG5 := Lib.hid (HUN.out _ h5); clear h5 q2; simp only [])
          | (go_at_call 36; refine (HOK.out _ _ _ _ _ _ _ _ HG5.out HEN.out).mono ?_; rintro e w7 ⟨va', n', c', rfl, h6⟩; have H6 := Lib.hid h6; clear h6; simp only []))
        exact H6.out
      · have hlt : a' < S.size := by omega
        have HO1 := Lib.hid (over_seq HG.out.1.rs.rr false (decide_eq_false hov))
        have hat := data_get S a' hlt
        obtain ⟨c0, hch⟩ : ∃ ch, S[a']'hlt = ch := ⟨_, rfl⟩
        rw [hch] at hat
        have hdr := at_drop hat
        have HDR := Lib.hid hdr
        have HSEE : Hid (∀ w5, WGood w w5 rb S 2 false d Z s va n c a' l L p → Calls Try.prog 26 #[.pointer (some ⟨rb, 0, none⟩), .int .i64 0] w5 fun e w' => e = .returned (.int .u8 c0.toNat) ∧ Below w5.heap.size w5 w') := fun w5 h => see_seq h.1.rs.rr 0 0 a' rfl rfl (by omega) (by omega) (seeF_head hdr)
        have HEQ : Hid (readC 2 false d ps0 s = readC 2 false d p (S.data.toList.drop a')) := HG.out.2
        have HLL : Hid (l.length ≤ 90000) := by
          have : l.length ≤ SZ l := by unfold SZ; omega
          rw [Hid]; omega
        have HKP : Hid (∀ w5 w', WGood w w5 rb S 2 false d Z s va n c a' l L p → Below w5.heap.size w5 w' → WGood w w' rb S 2 false d Z s va n c a' l L p) := fun w5 w' h h5 => ⟨h.1.under h5, h.2⟩
        -- how a round ends
        have HGO : Hid (∀ w7 va7 n7 c7 a7 l7 L7 p7, RIn w w7 rb w.heap.size S a7 (.slice va7 n7 c7) l7 L7 p7 Z → readC 2 false d p (S.data.toList.drop a') = readC 2 false d p7 (S.data.toList.drop a7) → a' < a7 → Hid (a ≤ a7 ∧ WGood w w7 rb S 2 false d Z s va7 n7 c7 a7 l7 L7 p7) ∧ meaW rb w7 < meaW rb wr) := fun w7 va7 n7 c7 a7 l7 L7 p7 h1 h2 h3 => ⟨⟨by omega, h1, HEQ.out.trans h2⟩, by rw [meaW_ok h1.rs.rr, meaW_ok HG.out.1.rs.rr]; have := h1.le; omega⟩
        have HNO : Hid (∀ w7 va7 n7 c7 a7 l7 L7 x7, RS w w7 rb w.heap.size S a7 x7 (.slice va7 n7 c7) l7 L7 → (∀ y ∈ l7, RawOk y) → x7 ≠ 0 → a7 ≤ EAt d + 40 → SZ l7 ≤ Z + 2 → readC 2 false d p (S.data.toList.drop a') = .error x7 → WBad w w7 rb S 2 false d Z s va7 n7 c7 a7 l7 L7 x7 ∧ meaW rb w7 < meaW rb wr) := fun w7 va7 n7 c7 a7 l7 L7 x7 h1 h2 h3 h4 h5 h6 => ⟨⟨h1, h2, h3, h4, h5, HEQ.out.trans h6⟩, by rw [meaW_bad h1.rr h3, meaW_ok HG.out.1.rs.rr]; omega⟩
        by_cases e125 : c0 = 125
        · have nc0125 : (c0.toNat : Int) = 125 := by rw [e125]; rfl
          have HEN : Hid (readC 2 false d p (S.data.toList.drop a') = .ok (p, S.data.toList.drop a')) := by rw [hdr, e125]; exact readC_end rfl
          clear hov hat hch hdr e125
          go_wp2_with (first
            | (go_at_call 25; (with_reducible refine HO1.out.mono ?_); rintro e w5 ⟨rfl, h5⟩; have HG5 := Lib.hid (HUN.out _ h5); clear h5 q2; simp only [])
            | (go_at_call 26; (with_reducible refine (HSEE.out _ HG5.out).mono ?_); rintro e w6 ⟨rfl, h6⟩; have HG6 := Lib.hid (HKP.out _ _ HG5.out h6); clear h6;  simp only [])
            | (go_at_call 36; refine (HOK.out _ _ _ _ _ _ _ _ HG6.out HEN.out).mono ?_; rintro e w7 ⟨va', n', c', rfl, h6⟩; have H6 := Lib.hid h6; clear h6; simp only []))
          exact H6.out
        have nc0125 : ¬ ((c0.toNat : Int) = 125) := fun e => e125 (UInt8.toNat_inj.1 (by have : ((125 : UInt8).toNat : Int) = 125 := rfl; omega))
        have zc0125 : ((c0.toNat : Int) == 125) = false := beq_eq_false_iff_ne.2 nc0125
        have hee : endsB 2 c0 = false := by show (c0 == 125) = false; exact beq_eq_false_iff_ne.2 e125
        by_cases e39 : c0 = 39
        · as_aux_lemma =>
            have nc039 : (c0.toNat : Int) = 39 := by rw [e39]; rfl
            obtain ⟨m, hm⟩ : ∃ m, a' + 1 = m := ⟨_, rfl⟩
            have hmS : m ≤ S.size := by omega
            have ham : a' ≤ m := by omega
            have ha0 : (0 : Int) ≤ (a' : Int) := by omega
            have hm0 : (0 : Int) ≤ (m : Int) := by omega
            have hm1 : a' < m := by omega
            have hm2 : m ≤ a' + 1 := by omega
            have hwm : IntKind.i64.wrap ((a' : Int) + 1) = (m : Int) := (IntWalk.i64_in _ (by omega)).trans (by omega)
            rw [hm] at hdr
            have HRC0 : Hid (readC 2 false d p (S.data.toList.drop a') = match cutAt 39 (S.data.toList.drop m) with
                | none => .error 2
                | some (t, r') => readC 2 false d (p.mark.put 2 t) r') := by rw [Hid, hdr, e39]; exact readC_one (by rw [← e39]; exact hee) rfl
            clear hov hat hch hdr e125 e39
            go_wp2_with (first
              | (go_at_call 25; (with_reducible refine HO1.out.mono ?_); rintro e w5 ⟨rfl, h5⟩; have HG5 := Lib.hid (HUN.out _ h5); clear h5 q2; simp only [])
              | (go_at_call 26; (with_reducible refine (HSEE.out _ HG5.out).mono ?_); rintro e w6 ⟨rfl, h6⟩; have HG6 := Lib.hid (HKP.out _ _ HG5.out h6); clear h6; have q06 : w6.cell? ⟨rb, 0, none⟩ = some (.string S) := cell_of HG6.out.1.rs.rr 0; have q16 : w6.cell? ⟨rb, 1, none⟩ = some (.int .i64 a') := cell_of HG6.out.1.rs.rr 1; have f16 := free_of HG6.out.1.rs.rr 1; have HRM := Lib.hid (HG6.out.1.rs.setI m (ai := (m : Int)) rfl); have q1m : (w6.setCell ⟨rb, 1, none⟩ (.int .i64 (m : Int))).cell? ⟨rb, 1, none⟩ = some (.int .i64 m) := cell_of HRM.out.rr 1; simp only []))
            clear q06 q16 f16
            go_loopw [] (fun wx => ∃ k : Nat, m ≤ k ∧ k ≤ S.size ∧ Hid (RS w wx rb w.heap.size S k 0 (.slice va n c) l L ∧ ∀ y ∈ (S.data.toList.drop m).take (k - m), y ≠ 39)) (fun wx => meaR rb wx)
            case atStart => exact ⟨m, Nat.le_refl _, hmS, HRM.out, by simp⟩
            case round =>
              obtain ⟨k, hmk, hkS, HJ⟩ := hrel
              by_cases hov2 : S.size ≤ k
              · as_aux_lemma =>
                  have HO2 : Hid (∀ w5, RS w w5 rb w.heap.size S k 0 (.slice va n c) l L → Calls Try.prog 25 #[.pointer (some ⟨rb, 0, none⟩)] w5 fun e w' => e = .returned (.bool true) ∧ Below w5.heap.size w5 w') := fun w5 h => over_seq h.rr true (decide_eq_true hov2)
                  have HCUT : Hid (readC 2 false d p (S.data.toList.drop a') = .error 2) := by
                    have h1 := HJ.out.2
                    rw [List.take_of_length_le (by rw [List.length_drop, dl]; omega)] at h1
                    rw [Hid, HRC0.out, cutAt_no h1]
                  have HFL : Hid (∀ w5, RS w w5 rb w.heap.size S k 0 (.slice va n c) l L → Calls Try.prog 39 #[.pointer (some ⟨rb, 0, none⟩), .int .i64 2] w5 fun e w' => e = .returned (.tuple #[]) ∧ Q (.returned (.slice none 0 0)) w') := fun w5 h5 => (fail_any h5.rr 2 2 rfl).mono (by
                    rintro e w' ⟨rfl, h1, h2⟩
                    refine ⟨rfl, ?_⟩
                    rw [← HQ.out, HEQ.out, HCUT.out]
                    exact ⟨none, 0, 0, k, 2, [], rfl, h1, Rb.only (h5.rb h1 h2).only (Nat.le_refl _), .nil 0, rfl, by decide, by unfold EAt; omega⟩)
                  clear hov2
                  go_wp2_with (first
                    | (go_at_call 25; first
                        | ((with_reducible refine (HO2.out _ HJ.out.1).mono ?_); rintro e w8 ⟨rfl, h8⟩; have HR8 := Lib.hid (HJ.out.1.under h8); clear h8; simp only [])
                        | ((with_reducible refine (HO2.out _ HR8.out).mono ?_); rintro e w9 ⟨rfl, h9⟩; have HR9 := Lib.hid (HR8.out.under h9); clear h9; simp only []))
                    | (go_at_call 39; refine (HFL.out _ HR9.out).mono ?_; rintro e w10 ⟨rfl, h10⟩; have H10 := Lib.hid h10; clear h10; simp only []))
                  exact H10.out
              · have hlt2 : k < S.size := by omega
                have HO2 : Hid (∀ w5, RS w w5 rb w.heap.size S k 0 (.slice va n c) l L → Calls Try.prog 25 #[.pointer (some ⟨rb, 0, none⟩)] w5 fun e w' => e = .returned (.bool false) ∧ Below w5.heap.size w5 w') := fun w5 h => over_seq h.rr false (decide_eq_false hov2)
                have hat2 := data_get S k hlt2
                obtain ⟨c1, hch2⟩ : ∃ ch, S[k]'hlt2 = ch := ⟨_, rfl⟩
                rw [hch2] at hat2
                have hdr2 := at_drop hat2
                have HSE1 : Hid (∀ w5, RS w w5 rb w.heap.size S k 0 (.slice va n c) l L → Calls Try.prog 26 #[.pointer (some ⟨rb, 0, none⟩), .int .i64 0] w5 fun e w' => e = .returned (.int .u8 c1.toNat) ∧ Below w5.heap.size w5 w') := fun w5 h => see_seq h.rr 0 0 k rfl rfl (by omega) (by omega) (seeF_head hdr2)
                obtain ⟨k2, hk2⟩ : ∃ k2, k + 1 = k2 := ⟨_, rfl⟩
                rw [hk2] at hdr2
                have hk21 : k < k2 := by omega
                have hk22 : k2 ≤ k + 1 := by omega
                have hwk : IntKind.i64.wrap ((k : Int) + 1) = (k2 : Int) := (IntWalk.i64_in _ (by omega)).trans (by omega)
                have hk0 : (0 : Int) ≤ (k : Int) := by omega
                have hmkI : (m : Int) ≤ (k : Int) := by omega
                have hkSI : (k : Int) ≤ (S.size : Int) := by omega
                have hdd : (S.data.toList.drop m).drop (k - m) = c1 :: S.data.toList.drop k2 := by rw [List.drop_drop, show m + (k - m) = k by omega]; exact hdr2
                by_cases e1 : c1 = 39
                · as_aux_lemma =>
                    have n39 : (c1.toNat : Int) = 39 := by rw [e1]; rfl
                    have z39 : ((c1.toNat : Int) == 39) = true := by rw [n39]; rfl
                    have hX := ext_dt (t := S) (a := m) (b := k) hmk hkS
                    obtain ⟨X, hXX⟩ : ∃ X, S.extract m k = X := ⟨_, rfl⟩
                    rw [hXX] at hX
                    have HX : Hid (X.data.toList = (S.data.toList.drop m).take (k - m)) := by rw [Hid, hX.1, List.drop_take]
                    have HXL : Hid (X.data.toList.length = k - m) := by rw [Hid, HX.out, List.length_take, List.length_drop, dl]; omega
                    have HRC : Hid (readC 2 false d p (S.data.toList.drop a') = readC 2 false d (p.mark.put 2 X.data.toList) (S.data.toList.drop k2)) := by
                      have h1 : cutAt 39 (S.data.toList.drop m) = some (X.data.toList, S.data.toList.drop k2) := by
                        have h2 : S.data.toList.drop m = X.data.toList ++ 39 :: S.data.toList.drop k2 := by
                          rw [HX.out, ← e1, ← hdd, List.take_append_drop]
                        rw [h2]
                        exact cutAt_app (by rw [HX.out]; exact HJ.out.2)
                      rw [Hid, HRC0.out, h1]
                    have HPUT : Hid (∀ w5, RS w w5 rb w.heap.size S k 0 (.slice va n c) l L → Calls Try.prog 40 #[.slice va n c, .agg #[.int .i64 2, .string X, .string ⟨#[]⟩, .string ⟨#[]⟩, .slice none 0 0, .bool false]] w5 fun e w' => ∃ va7 n7 c7 L7, e = .returned (.slice va7 n7 c7) ∧ RS w w' rb w.heap.size S k 0 (.slice va7 n7 c7) (l ++ [txt 2 X.data.toList]) L7) := fun w5 h => RPutS h HLL.out 2 2 rfl X (fun e => absurd e (by decide))
                    clear hX hat2 hch2 hdr2 hdd e1 hm hk2 hov2
                    go_wp2_with (first
                      | (go_at_call 25; first
                          | ((with_reducible refine (HO2.out _ HJ.out.1).mono ?_); rintro e w8 ⟨rfl, h8⟩; have HR8 := Lib.hid (HJ.out.1.under h8); clear h8; simp only [])
                          | ((with_reducible refine (HO2.out _ HR9.out).mono ?_); rintro e w10 ⟨rfl, h10⟩; have HR10 := Lib.hid (HR9.out.under h10); clear h10; have q0x : w10.cell? ⟨rb, 0, none⟩ = some (.string S) := cell_of HR10.out.rr 0; have q1x : w10.cell? ⟨rb, 1, none⟩ = some (.int .i64 k) := cell_of HR10.out.rr 1; simp only []))
                      | (go_at_call 26; (with_reducible refine (HSE1.out _ HR8.out).mono ?_); rintro e w9 ⟨rfl, h9⟩; have HR9 := Lib.hid (HR8.out.under h9); clear h9; simp only []))
                    go_still_tail 12, (by kernel_rfl)
                    change wpList _ _ _ _ _ w10.drew
                    have HRd := Lib.hid (HR10.out.under (drew_below w10 1))
                    clear q0x q1x
                    go_wp2_with (go_at_call 40; refine (HPUT.out w10.drew HRd.out).mono ?_; rintro e w11 ⟨va7, n7, c7, L7, rfl, h7⟩; have H9 := Lib.hid h7; have q19 : w11.cell? ⟨rb, 1, none⟩ = some (.int .i64 k) := cell_of h7.rr 1; have f19 := free_of h7.rr 1; clear h7; simp only [])
                    have HG7 := Lib.hid (HGO.out _ va7 n7 c7 k2 _ L7 _ (RIn.singleA HG.out.1 (H9.out.setI k2 (ai := (k2 : Int)) rfl) (by omega) (by rw [HXL.out]; omega)) HRC.out (by omega))
                    go_roundw
                    case measure => exact HG7.out.2
                    case rel => exact ⟨_, _, _, _, 0, _, _, _, rfl, .inl ⟨rfl, HG7.out.1.out⟩⟩
                · as_aux_lemma =>
                    have n39 : ¬ ((c1.toNat : Int) = 39) := fun e => e1 (UInt8.toNat_inj.1 (by have : ((39 : UInt8).toNat : Int) = 39 := rfl; omega))
                    have z39 : ((c1.toNat : Int) == 39) = false := beq_eq_false_iff_ne.2 n39
                    have HNN : Hid (∀ y ∈ (S.data.toList.drop m).take (k2 - m), y ≠ 39) := by
                      rw [Hid, show k2 - m = (k - m) + 1 by omega, List.take_add_one, show (S.data.toList.drop m)[k - m]? = some c1 by
                        have := congrArg List.head? hdd
                        rw [List.head?_drop] at this; exact this]
                      intro y hy
                      rcases List.mem_append.1 hy with hy | hy
                      · exact HJ.out.2 y hy
                      · have : y = c1 := by simpa using hy
                        rw [this]; exact e1
                    clear hat2 hch2 hdr2 hdd e1 hov2
                    go_wp2_with (first
                      | (go_at_call 25; (with_reducible refine (HO2.out _ HJ.out.1).mono ?_); rintro e w8 ⟨rfl, h8⟩; have HR8 := Lib.hid (HJ.out.1.under h8); clear h8; simp only [])
                      | (go_at_call 26; (with_reducible refine (HSE1.out _ HR8.out).mono ?_); rintro e w9 ⟨rfl, h9⟩; have HR9 := Lib.hid (HR8.out.under h9); have q1y : w9.cell? ⟨rb, 1, none⟩ = some (.int .i64 k) := cell_of HR9.out.rr 1; have f1y := free_of HR9.out.rr 1; clear h9; simp only []))
                    have HR11 := Lib.hid (HR9.out.setI k2 (ai := (k2 : Int)) rfl)
                    go_roundw
                    case measure => rw [meaR_at HR11.out.rr, meaR_at HJ.out.1.rr]; omega
                    case rel => exact ⟨k2, by omega, by omega, HR11.out, HNN.out⟩
        have nc039 : ¬ ((c0.toNat : Int) = 39) := fun e => e39 (UInt8.toNat_inj.1 (by have : ((39 : UInt8).toNat : Int) = 39 := rfl; omega))
        have zc039 : ((c0.toNat : Int) == 39) = false := beq_eq_false_iff_ne.2 nc039
        by_cases e34 : c0 = 34
        · as_aux_lemma =>
            have nc034 : (c0.toNat : Int) = 34 := by rw [e34]; rfl
            obtain ⟨m, hm⟩ : ∃ m, a' + 1 = m := ⟨_, rfl⟩
            have hmS : m ≤ S.size := by omega
            have ham : a' ≤ m := by omega
            have ha0 : (0 : Int) ≤ (a' : Int) := by omega
            have hm0 : (0 : Int) ≤ (m : Int) := by omega
            have hm1 : a' < m := by omega
            have hm2 : m ≤ a' + 1 := by omega
            have hwm : IntKind.i64.wrap ((a' : Int) + 1) = (m : Int) := (IntWalk.i64_in _ (by omega)).trans (by omega)
            rw [hm] at hdr
            have HRC0 : Hid (readC 2 false d p (S.data.toList.drop a') = match readC 3 true d p.mark (S.data.toList.drop m) with
                | .error x => .error x
                | .ok (p', []) => .error 2
                | .ok (p', _ :: r') => readC 2 false d p' r') := by rw [Hid, hdr, e34]; exact readC_two (by rw [← e34]; exact hee) rfl
            have HPUT : Hid (∀ w5, RS w w5 rb w.heap.size S m 0 (.slice va n c) l L → Calls Try.prog 40 #[.slice va n c, .agg #[.int .i64 2, .string ⟨#[]⟩, .string ⟨#[]⟩, .string ⟨#[]⟩, .slice none 0 0, .bool false]] w5 fun e w' => ∃ va7 n7 c7 L7, e = .returned (.slice va7 n7 c7) ∧ RS w w' rb w.heap.size S m 0 (.slice va7 n7 c7) (l ++ [txt 2 []]) L7) := fun w5 h => RPutS h HLL.out 2 2 rfl ⟨#[]⟩ (fun e => absurd e (by decide))
            clear hov hat hch hdr e125 e34
            go_wp2_with (first
              | (go_at_call 25; (with_reducible refine HO1.out.mono ?_); rintro e w5 ⟨rfl, h5⟩; have HG5 := Lib.hid (HUN.out _ h5); clear h5 q2; simp only [])
              | (go_at_call 26; (with_reducible refine (HSEE.out _ HG5.out).mono ?_); rintro e w6 ⟨rfl, h6⟩; have HG6 := Lib.hid (HKP.out _ _ HG5.out h6); clear h6; have q06 : w6.cell? ⟨rb, 0, none⟩ = some (.string S) := cell_of HG6.out.1.rs.rr 0; have q16 : w6.cell? ⟨rb, 1, none⟩ = some (.int .i64 a') := cell_of HG6.out.1.rs.rr 1; have f16 := free_of HG6.out.1.rs.rr 1; have HRM := Lib.hid (HG6.out.1.rs.setI m (ai := (m : Int)) rfl); have q1m : (w6.setCell ⟨rb, 1, none⟩ (.int .i64 (m : Int))).cell? ⟨rb, 1, none⟩ = some (.int .i64 m) := cell_of HRM.out.rr 1; simp only [])
              | (go_at_call 40; refine (HPUT.out _ HRM.out).mono ?_; rintro e w7 ⟨va7, n7, c7, L7, rfl, h7⟩; have H7 := Lib.hid h7; clear h7 q06 q16 f16 q1m; simp only []))
            have H70 : Hid (QGoodA w w7 rb S d Z p.mark m va7 n7 c7 m (l ++ [txt 2 []]) L7 p.mark) := ⟨RIn.voidA HG.out.1 H7.out hmS (by omega), rfl⟩
            go_loopw [9] (fun lv wx => ∃ va2 n2 c2 a2 x2 l2 L2 p2, lv = .slice va2 n2 c2 ∧ Hid ((x2 = 0 ∧ m ≤ a2 ∧ QGoodA w wx rb S d Z p.mark m va2 n2 c2 a2 l2 L2 p2) ∨ QBadA w wx rb S d Z p.mark m va2 n2 c2 a2 l2 L2 x2)) (fun _ wx => meaW rb wx)
            case atStart => exact ⟨va7, n7, c7, m, 0, _, L7, p.mark, rfl, .inl ⟨rfl, Nat.le_refl _, H70.out⟩⟩
            case round =>
              obtain ⟨va2, n2, c2, a2, x2, l2, L2, p2, rfl, HR2⟩ := hrel
              rcases HR2.out with ⟨hx0, hma2, hg2⟩ | hb2
              · subst hx0
                have HG2 := Lib.hid hg2
                have HRS2 := Lib.hid hg2.1.rs
                have hle2 := hg2.1.le
                have hsz2 := hg2.1.sz
                have q2x : wr.cell? ⟨rb, 2, none⟩ = some (.int .i64 ((0 : Nat) : Int)) := cell_of hg2.1.rs.rr 2
                obtain ⟨a3, ha3⟩ : ∃ a3, a2 + 1 = a3 := ⟨_, rfl⟩
                have hw3 : IntKind.i64.wrap ((a2 : Int) + 1) = (a3 : Int) := (IntWalk.i64_in _ (by omega)).trans (by omega)
                clear hg2
                by_cases hov2 : S.size ≤ a2
                · as_aux_lemma =>
                    have HO2 : Hid (∀ w5, RS w w5 rb w.heap.size S a2 0 (.slice va2 n2 c2) l2 L2 → Calls Try.prog 25 #[.pointer (some ⟨rb, 0, none⟩)] w5 fun e w' => e = .returned (.bool true) ∧ Below w5.heap.size w5 w') := fun w5 h => over_seq h.rr true (decide_eq_true hov2)
                    have HERR : Hid (readC 2 false d p (S.data.toList.drop a') = .error 2) := by
                      rw [Hid, HRC0.out, HG2.out.2, List.drop_of_length_le (by rw [dl]; exact hov2), readC_nil]
                    have HFL : Hid (∀ w5, RS w w5 rb w.heap.size S a2 0 (.slice va2 n2 c2) l2 L2 → Calls Try.prog 39 #[.pointer (some ⟨rb, 0, none⟩), .int .i64 2] w5 fun e w' => e = .returned (.tuple #[]) ∧ RS w w' rb w.heap.size S a2 2 (.slice va2 n2 c2) l2 L2) := fun w5 h5 => (fail_any h5.rr 2 2 rfl).mono (by
                      rintro e w' ⟨rfl, h1, h2⟩
                      exact ⟨rfl, h5.rb h1 h2⟩)
                    clear hov2
                    go_wp2_with (first
                      | (go_at_call 25; first
                          | ((with_reducible refine (HO2.out _ HRS2.out).mono ?_); rintro e w8 ⟨rfl, h8⟩; have HR8 := Lib.hid (HG2.out.1.rs.under h8); clear h8; simp only [])
                          | ((with_reducible refine (HO2.out _ HR8.out).mono ?_); rintro e w10 ⟨rfl, h10⟩; have HR10 := Lib.hid (HR8.out.under h10); clear h10; simp only []))
                      | (go_at_call 39; refine (HFL.out _ HR10.out).mono ?_; rintro e w11 ⟨rfl, h11⟩; have H11 := Lib.hid h11; have q1x : w11.cell? ⟨rb, 1, none⟩ = some (.int .i64 a2) := cell_of H11.out.rr 1; have f1x := free_of H11.out.rr 1; clear h11; simp only []))
                    have HB7 := Lib.hid (HNO.out _ _ _ _ _ _ _ _ (H11.out.setI a3 (ai := (a3 : Int)) rfl) HG2.out.1.ok (by decide) (by unfold EAt; omega) (by omega) HERR.out)
                    go_roundw
                    case measure => exact HB7.out.2
                    case rel => exact ⟨_, _, _, _, _, _, _, p, rfl, .inr HB7.out.1⟩
                · have hlt2 : a2 < S.size := by omega
                  have HO2 : Hid (∀ w5, RS w w5 rb w.heap.size S a2 0 (.slice va2 n2 c2) l2 L2 → Calls Try.prog 25 #[.pointer (some ⟨rb, 0, none⟩)] w5 fun e w' => e = .returned (.bool false) ∧ Below w5.heap.size w5 w') := fun w5 h => over_seq h.rr false (decide_eq_false hov2)
                  have hat2 := data_get S a2 hlt2
                  obtain ⟨c1, hch2⟩ : ∃ ch, S[a2]'hlt2 = ch := ⟨_, rfl⟩
                  rw [hch2] at hat2
                  have hdr2 := at_drop hat2
                  have HSE1 : Hid (∀ w5, RS w w5 rb w.heap.size S a2 0 (.slice va2 n2 c2) l2 L2 → Calls Try.prog 26 #[.pointer (some ⟨rb, 0, none⟩), .int .i64 0] w5 fun e w' => e = .returned (.int .u8 c1.toNat) ∧ Below w5.heap.size w5 w') := fun w5 h => see_seq h.rr 0 0 a2 rfl rfl (by omega) (by omega) (seeF_head hdr2)
                  by_cases e1 : c1 = 34
                  · as_aux_lemma =>
                      have n34 : (c1.toNat : Int) = 34 := by rw [e1]; rfl
                      have z34 : ((c1.toNat : Int) == 34) = true := by rw [n34]; rfl
                      have HRC : Hid (readC 2 false d p (S.data.toList.drop a') = readC 2 false d p2 (S.data.toList.drop a3)) := by
                        rw [Hid, HRC0.out, HG2.out.2, hdr2, e1, ha3, readC_end rfl]
                      clear hat2 hch2 hdr2 e1 hov2
                      go_wp2_with (first
                        | (go_at_call 25; first
                            | ((with_reducible refine (HO2.out _ HRS2.out).mono ?_); rintro e w8 ⟨rfl, h8⟩; have HR8 := Lib.hid (HG2.out.1.rs.under h8); clear h8; simp only [])
                            | ((with_reducible refine (HO2.out _ HR9.out).mono ?_); rintro e w10 ⟨rfl, h10⟩; have HR10 := Lib.hid (HR9.out.under h10); clear h10; have q1x : w10.cell? ⟨rb, 1, none⟩ = some (.int .i64 a2) := cell_of HR10.out.rr 1; have f1x := free_of HR10.out.rr 1; simp only []))
                        | (go_at_call 26; (with_reducible refine (HSE1.out _ HR8.out).mono ?_); rintro e w9 ⟨rfl, h9⟩; have HR9 := Lib.hid (HR8.out.under h9); clear h9; simp only []))
                      have HG7 := Lib.hid (HGO.out _ va2 n2 c2 a3 l2 L2 p2 ⟨HR10.out.setI a3 (ai := (a3 : Int)) rfl, HG2.out.1.ok, HG2.out.1.eqv, by omega, by omega⟩ HRC.out (by omega))
                      go_roundw
                      case measure => exact HG7.out.2
                      case rel => exact ⟨_, _, _, _, 0, _, _, _, rfl, .inl ⟨rfl, HG7.out.1.out⟩⟩
                  · as_aux_lemma =>
                      have n34 : ¬ ((c1.toNat : Int) = 34) := fun e => e1 (UInt8.toNat_inj.1 (by have : ((34 : UInt8).toNat : Int) = 34 := rfl; omega))
                      have z34 : ((c1.toNat : Int) == 34) = false := beq_eq_false_iff_ne.2 n34
                      have HIN := Lib.hid (readC_in (e := 3) (d := d) (p := p2) (c := c1) (r := S.data.toList.drop (a2 + 1)) (by show (c1 == 34) = false; exact beq_eq_false_iff_ne.2 e1))
                      rw [← hdr2] at HIN
                      have HNN : Hid (∀ w5, RS w w5 rb w.heap.size S a2 0 (.slice va2 n2 c2) l2 L2 → Calls Try.prog 38 #[.pointer (some ⟨rb, 0, none⟩), .slice va2 n2 c2, .int .i64 d] w5 (RStep w rb w.heap.size S d Z (innerF d p2 (S.data.toList.drop a2)))) := fun w5 h => RInner_any d hd ⟨h, HG2.out.1.ok, HG2.out.1.eqv, HG2.out.1.sz, HG2.out.1.le⟩ hlt2 hZ6 hS (fun m hm => HIH.out m (by omega))
                      have HLEN : Hid (∀ p3 t, innerF d p2 (S.data.toList.drop a2) = .ok (p3, t) → t.length ≤ S.size - (a2 + 1)) := fun p3 t h => by
                        rw [hdr2] at h
                        have := innerF_len h
                        rw [List.length_drop, dl] at this; exact this
                      clear hat2 hch2 hdr2 e1 hov2
                      go_wp2_with (first
                        | (go_at_call 25; (with_reducible refine (HO2.out _ HRS2.out).mono ?_); rintro e w8 ⟨rfl, h8⟩; have HR8 := Lib.hid (HG2.out.1.rs.under h8); clear h8; simp only [])
                        | (go_at_call 26; (with_reducible refine (HSE1.out _ HR8.out).mono ?_); rintro e w9 ⟨rfl, h9⟩; have HR9 := Lib.hid (HR8.out.under h9); clear h9; simp only [])
                        | (go_at_call 38; refine (HNN.out _ HR9.out).mono ?_; rintro e w11 ⟨va8, n8, c8, l8, L8, a8, x8, rfl, hrs8, hok8, hm8⟩; have HRS8 := Lib.hid hrs8; have HOK8 := Lib.hid hok8; have HM8 := Lib.hid hm8; clear hrs8 hok8 hm8; simp only []))
                      cases hI : innerF d p2 (S.data.toList.drop a2) with
                      | error y =>
                        rw [hI] at HM8 HIN
                        have HB8 : Hid (QBadA w w11 rb S d Z p.mark m va8 n8 c8 a8 l8 L8 x8) := by
                          obtain ⟨e1, e2, e3, e4⟩ := HM8.out
                          subst e1
                          exact ⟨HRS8.out, HOK8.out, e2, by omega, e4, HG2.out.2.trans HIN.out⟩
                        clear hI
                        go_roundw
                        case measure => rw [meaW_bad HB8.out.1.rr HB8.out.2.2.1, meaW_ok HG2.out.1.rs.rr]; omega
                        case rel => exact ⟨va8, n8, c8, a8, x8, l8, L8, p2, rfl, .inr HB8.out⟩
                      | ok z =>
                        obtain ⟨p3, t⟩ := z
                        rw [hI] at HM8 HIN
                        have hl := HLEN.out p3 t hI
                        have HG8 : Hid (x8 = 0 ∧ a2 < a8 ∧ a8 ≤ S.size ∧ QGoodA w w11 rb S d Z p.mark m va8 n8 c8 a8 l8 L8 p3) := by
                          obtain ⟨e1, e2, e3, e4, e5⟩ := HM8.out
                          subst e1
                          have h9 := congrArg List.length e3
                          rw [List.length_drop, dl] at h9
                          exact ⟨rfl, by omega, e2, ⟨HRS8.out, HOK8.out, e4, e5, e2⟩, by rw [HG2.out.2, HIN.out, e3]⟩
                        clear hI hl
                        go_roundw
                        case measure => rw [meaW_ok HG8.out.2.2.2.1.rs.rr, meaW_ok HG2.out.1.rs.rr]; have := HG8.out.2.1; have := HG8.out.2.2.1; omega
                        case rel => exact ⟨va8, n8, c8, a8, 0, l8, L8, p3, rfl, .inl ⟨rfl, by have := HG8.out.2.1; omega, HG8.out.2.2.2⟩⟩
              · have HB2 := Lib.hid hb2
                have HRB2 := Lib.hid hb2.1
                obtain ⟨h1, h2, h3, h4, h5, h6⟩ := hb2
                have q2x : wr.cell? ⟨rb, 2, none⟩ = some (.int .i64 x2) := cell_of h1.rr 2
                have hxz : ((x2 : Int) == 0) = false := beq_eq_false_iff_ne.2 (by omega)
                have hxn : ¬ ((x2 : Int) = 0) := by omega
                have hEA : EAt d ≤ 36000 := by unfold EAt; omega
                obtain ⟨a3, ha3⟩ : ∃ a3, a2 + 1 = a3 := ⟨_, rfl⟩
                have hw3 : IntKind.i64.wrap ((a2 : Int) + 1) = (a3 : Int) := (IntWalk.i64_in _ (by omega)).trans (by omega)
                have HERR : Hid (readC 2 false d p (S.data.toList.drop a') = .error x2) := by
                  rw [Hid, HRC0.out, h6]
                have hbl := h4
                have hbs := h5
                clear h1 h2 h3 h4 h5 h6
                by_cases hov2 : S.size ≤ a2
                · as_aux_lemma =>
                    have HO2 : Hid (∀ w5, RS w w5 rb w.heap.size S a2 x2 (.slice va2 n2 c2) l2 L2 → Calls Try.prog 25 #[.pointer (some ⟨rb, 0, none⟩)] w5 fun e w' => e = .returned (.bool true) ∧ Below w5.heap.size w5 w') := fun w5 h => over_seq h.rr true (decide_eq_true hov2)
                    have HFL : Hid (∀ w5, RS w w5 rb w.heap.size S a2 x2 (.slice va2 n2 c2) l2 L2 → Calls Try.prog 39 #[.pointer (some ⟨rb, 0, none⟩), .int .i64 2] w5 fun e w' => e = .returned (.tuple #[]) ∧ RS w w' rb w.heap.size S a2 x2 (.slice va2 n2 c2) l2 L2) := fun w5 h5 => (fail_any h5.rr 2 2 rfl).mono (by
                      rintro e w' ⟨rfl, h1, h2⟩
                      rw [show orE x2 2 = x2 from if_neg HB2.out.2.2.1] at h1
                      exact ⟨rfl, h5.rb h1 h2⟩)
                    clear hov2
                    go_wp2_with (first
                      | (go_at_call 25; (with_reducible refine (HO2.out _ HRB2.out).mono ?_); rintro e w10 ⟨rfl, h10⟩; have HR10 := Lib.hid (HB2.out.1.under h10); clear h10; simp only [])
                      | (go_at_call 39; refine (HFL.out _ HR10.out).mono ?_; rintro e w11 ⟨rfl, h11⟩; have H11 := Lib.hid h11; have q1x : w11.cell? ⟨rb, 1, none⟩ = some (.int .i64 a2) := cell_of H11.out.rr 1; have f1x := free_of H11.out.rr 1; clear h11; simp only []))
                    have HB7 := Lib.hid (HNO.out _ _ _ _ _ _ _ _ (H11.out.setI a3 (ai := (a3 : Int)) rfl) HB2.out.2.1 HB2.out.2.2.1 (by omega) hbs HERR.out)
                    go_roundw
                    case measure => exact HB7.out.2
                    case rel => exact ⟨_, _, _, _, _, _, _, p, rfl, .inr HB7.out.1⟩
                · as_aux_lemma =>
                    have HO2 : Hid (∀ w5, RS w w5 rb w.heap.size S a2 x2 (.slice va2 n2 c2) l2 L2 → Calls Try.prog 25 #[.pointer (some ⟨rb, 0, none⟩)] w5 fun e w' => e = .returned (.bool false) ∧ Below w5.heap.size w5 w') := fun w5 h => over_seq h.rr false (decide_eq_false hov2)
                    clear hov2
                    go_wp2_with (go_at_call 25; (with_reducible refine (HO2.out _ HRB2.out).mono ?_); rintro e w10 ⟨rfl, h10⟩; have HR10 := Lib.hid (HB2.out.1.under h10); clear h10; have q1x : w10.cell? ⟨rb, 1, none⟩ = some (.int .i64 a2) := cell_of HR10.out.rr 1; have f1x := free_of HR10.out.rr 1; simp only [])
                    have HB7 := Lib.hid (HNO.out _ _ _ _ _ _ _ _ (HR10.out.setI a3 (ai := (a3 : Int)) rfl) HB2.out.2.1 HB2.out.2.2.1 (by omega) hbs HERR.out)
                    go_roundw
                    case measure => exact HB7.out.2
                    case rel => exact ⟨_, _, _, _, _, _, _, p, rfl, .inr HB7.out.1⟩
        have nc034 : ¬ ((c0.toNat : Int) = 34) := fun e => e34 (UInt8.toNat_inj.1 (by have : ((34 : UInt8).toNat : Int) = 34 := rfl; omega))
        have zc034 : ((c0.toNat : Int) == 34) = false := beq_eq_false_iff_ne.2 nc034
        by_cases e92 : c0 = 92
        · as_aux_lemma =>
            have nc092 : (c0.toNat : Int) = 92 := by rw [e92]; rfl
            obtain ⟨m, hm⟩ : ∃ m, a' + 1 = m := ⟨_, rfl⟩
            have hmS : m ≤ S.size := by omega
            have ham1 : a' < m := by omega
            have ham : a' ≤ m := by omega
            have hamI : (a' : Int) ≤ (m : Int) := by omega
            have hmSI : (m : Int) ≤ (S.size : Int) := by omega
            have ha0 : (0 : Int) ≤ (a' : Int) := by omega
            have hwm : IntKind.i64.wrap ((a' : Int) + 1) = (m : Int) := (IntWalk.i64_in _ (by omega)).trans (by omega)
            have hwm2 : IntKind.i64.wrap ((m : Int) - 1) = (a' : Int) := (IntWalk.i64_in _ (by omega)).trans (by omega)
            rw [hm] at hdr
            have HRC0 : Hid (readC 2 false d p (S.data.toList.drop a') = readC 2 false d (escF false p (S.data.toList.drop m)).1 (escF false p (S.data.toList.drop m)).2) := by rw [Hid, hdr]; exact readC_esc hee e92
            by_cases ho2 : S.size ≤ m
            · have HOB : Hid (∀ w5, RS w w5 rb w.heap.size S m 0 (.slice va n c) l L → Calls Try.prog 25 #[.pointer (some ⟨rb, 0, none⟩)] w5 fun e w' => e = .returned (.bool true) ∧ Below w5.heap.size w5 w') := fun w5 h => over_seq h.rr true (decide_eq_true ho2)
              have hX := ext_dt (t := S) (a := a') (b := m) ham hmS
              obtain ⟨X, hXX⟩ : ∃ X, S.extract a' m = X := ⟨_, rfl⟩
              rw [hXX] at hX
              have HX : Hid (X.data.toList = [92]) := by rw [Hid, hX.1, List.drop_take, hdr, show m - a' = 1 by omega, e92]; rfl
              have HRC : Hid (readC 2 false d p (S.data.toList.drop a') = readC 2 false d (p.put 2 [92]) (S.data.toList.drop m)) := by
                have hz : S.data.toList.drop m = [] := List.drop_of_length_le (by rw [dl]; exact ho2)
                rw [Hid, HRC0.out, hz]; rfl
              have HPUT : Hid (∀ w5, RS w w5 rb w.heap.size S m 0 (.slice va n c) l L → Calls Try.prog 40 #[.slice va n c, .agg #[.int .i64 2, .string X, .string ⟨#[]⟩, .string ⟨#[]⟩, .slice none 0 0, .bool false]] w5 fun e w' => ∃ va7 n7 c7 L7, e = .returned (.slice va7 n7 c7) ∧ RS w w' rb w.heap.size S m 0 (.slice va7 n7 c7) (l ++ [txt 2 [92]]) L7) := fun w5 h => (RPutS h HLL.out 2 2 rfl X (fun e => absurd e (by decide))).mono (by
                rintro e w' ⟨a1, n1, c1, L1, rfl, h1⟩
                rw [HX.out] at h1
                exact ⟨a1, n1, c1, L1, rfl, h1⟩)
              clear hov hat hch hdr e125 hX hm ho2 e92
              go_wp2_with (first
                | (go_at_call 25; first
                    | ((with_reducible refine HO1.out.mono ?_); rintro e w5 ⟨rfl, h5⟩; have HG5 := Lib.hid (HUN.out _ h5); clear h5 q2; simp only [])
                    | ((with_reducible refine (HOB.out _ HRM.out).mono ?_); rintro e w7 ⟨rfl, h7⟩; have HR7 := Lib.hid (HRM.out.under h7); clear h7 q16 f16; have q07 : w7.cell? ⟨rb, 0, none⟩ = some (.string S) := cell_of HR7.out.rr 0; have q17 : w7.cell? ⟨rb, 1, none⟩ = some (.int .i64 m) := cell_of HR7.out.rr 1; have f17 := free_of HR7.out.rr 1; simp only []))
                | (go_at_call 26; first
                    | ((with_reducible refine (HSEE.out _ HG5.out).mono ?_); rintro e w6 ⟨rfl, h6⟩; have HG6 := Lib.hid (HKP.out _ _ HG5.out h6); clear h6; have q16 : w6.cell? ⟨rb, 1, none⟩ = some (.int .i64 a') := cell_of HG6.out.1.rs.rr 1; have f16 := free_of HG6.out.1.rs.rr 1; have HRM := Lib.hid (HG6.out.1.rs.setI m (ai := (m : Int)) rfl); simp only [])
                    | ((with_reducible refine (HSE1.out _ HR7.out).mono ?_); rintro e w8 ⟨rfl, h8⟩; have HR8 := Lib.hid (HR7.out.under h8); clear h8 q07 q17 f17; have q08 : w8.cell? ⟨rb, 0, none⟩ = some (.string S) := cell_of HR8.out.rr 0; have q18 : w8.cell? ⟨rb, 1, none⟩ = some (.int .i64 m) := cell_of HR8.out.rr 1; have f18 := free_of HR8.out.rr 1; simp only [])))
              go_still_tail 16, (by kernel_rfl)
              change wpList _ _ _ _ _ w7.drew
              have HRd := Lib.hid (HR7.out.under (drew_below w7 1))
              clear q07 q17 f17
              go_wp2_with (go_at_call 40; refine (HPUT.out w7.drew HRd.out).mono ?_; rintro e w9 ⟨va7, n7, c7, L7, rfl, h7⟩; have H9 := Lib.hid h7; clear h7; simp only [])
              have HG7 := Lib.hid (HGO.out _ va7 n7 c7 m _ L7 _ (RIn.textA HG.out.1 H9.out (.inr rfl) (by simp) hmS (by show SZ l + 1 + 1 + _ ≤ Z; omega)) HRC.out ham1)
              go_roundw
              case measure => exact HG7.out.2
              case rel => exact ⟨_, _, _, _, 0, _, _, _, rfl, .inl ⟨rfl, HG7.out.1.out⟩⟩
            have HOB : Hid (∀ w5, RS w w5 rb w.heap.size S m 0 (.slice va n c) l L → Calls Try.prog 25 #[.pointer (some ⟨rb, 0, none⟩)] w5 fun e w' => e = .returned (.bool false) ∧ Below w5.heap.size w5 w') := fun w5 h => over_seq h.rr false (decide_eq_false ho2)
            have hlt2 : m < S.size := by omega
            have hat2 := data_get S m hlt2
            obtain ⟨c1, hch2⟩ : ∃ ch, S[m]'hlt2 = ch := ⟨_, rfl⟩
            rw [hch2] at hat2
            have hdr2 := at_drop hat2
            have HSE1 : Hid (∀ w5, RS w w5 rb w.heap.size S m 0 (.slice va n c) l L → Calls Try.prog 26 #[.pointer (some ⟨rb, 0, none⟩), .int .i64 0] w5 fun e w' => e = .returned (.int .u8 c1.toNat) ∧ Below w5.heap.size w5 w') := fun w5 h => see_seq h.rr 0 0 m rfl rfl (by omega) (by omega) (seeF_head hdr2)
            obtain ⟨m2, hm2⟩ : ∃ m2, m + 1 = m2 := ⟨_, rfl⟩
            rw [hm2] at hdr2
            have hm2S : m2 ≤ S.size := by omega
            have hmm2 : m < m2 := by omega
            have hmm2' : m ≤ m2 := by omega
            have hmmI : (m : Int) ≤ (m2 : Int) := by omega
            have hm2SI : (m2 : Int) ≤ (S.size : Int) := by omega
            have hm0 : (0 : Int) ≤ (m : Int) := by omega
            have hwm3 : IntKind.i64.wrap ((m : Int) + 1) = (m2 : Int) := (IntWalk.i64_in _ (by omega)).trans (by omega)
            by_cases e10 : c1 = 10
            · have nc110 : (c1.toNat : Int) = 10 := by rw [e10]; rfl
              have HRC : Hid (readC 2 false d p (S.data.toList.drop a') = readC 2 false d p (S.data.toList.drop m2)) := by rw [Hid, HRC0.out, hdr2, e10]; rfl
              clear hov hat hch hdr e125 hm hm2 ho2 e92 hat2 hch2 hdr2 e10
              go_wp2_with (first
                | (go_at_call 25; first
                    | ((with_reducible refine HO1.out.mono ?_); rintro e w5 ⟨rfl, h5⟩; have HG5 := Lib.hid (HUN.out _ h5); clear h5 q2; simp only [])
                    | ((with_reducible refine (HOB.out _ HRM.out).mono ?_); rintro e w7 ⟨rfl, h7⟩; have HR7 := Lib.hid (HRM.out.under h7); clear h7 q16 f16; have q07 : w7.cell? ⟨rb, 0, none⟩ = some (.string S) := cell_of HR7.out.rr 0; have q17 : w7.cell? ⟨rb, 1, none⟩ = some (.int .i64 m) := cell_of HR7.out.rr 1; have f17 := free_of HR7.out.rr 1; simp only []))
                | (go_at_call 26; first
                    | ((with_reducible refine (HSEE.out _ HG5.out).mono ?_); rintro e w6 ⟨rfl, h6⟩; have HG6 := Lib.hid (HKP.out _ _ HG5.out h6); clear h6; have q16 : w6.cell? ⟨rb, 1, none⟩ = some (.int .i64 a') := cell_of HG6.out.1.rs.rr 1; have f16 := free_of HG6.out.1.rs.rr 1; have HRM := Lib.hid (HG6.out.1.rs.setI m (ai := (m : Int)) rfl); simp only [])
                    | ((with_reducible refine (HSE1.out _ HR7.out).mono ?_); rintro e w8 ⟨rfl, h8⟩; have HR8 := Lib.hid (HR7.out.under h8); clear h8 q07 q17 f17; have q08 : w8.cell? ⟨rb, 0, none⟩ = some (.string S) := cell_of HR8.out.rr 0; have q18 : w8.cell? ⟨rb, 1, none⟩ = some (.int .i64 m) := cell_of HR8.out.rr 1; have f18 := free_of HR8.out.rr 1; simp only [])))
              have HG7 := Lib.hid (HGO.out _ va n c m2 l L p ⟨HR8.out.setI m2 (ai := (m2 : Int)) rfl, HG.out.1.ok, HG.out.1.eqv, by omega, hm2S⟩ HRC.out (by omega))
              go_roundw
              case measure => exact HG7.out.2
              case rel => exact ⟨_, _, _, _, 0, _, _, _, rfl, .inl ⟨rfl, HG7.out.1.out⟩⟩
            have nc110 : ¬ ((c1.toNat : Int) = 10) := fun e => e10 (UInt8.toNat_inj.1 (by have : ((10 : UInt8).toNat : Int) = 10 := rfl; omega))
            have zc110 : ((c1.toNat : Int) == 10) = false := beq_eq_false_iff_ne.2 nc110
            have hX := ext_dt (t := S) (a := m) (b := m2) hmm2' hm2S
            obtain ⟨X, hXX⟩ : ∃ X, S.extract m m2 = X := ⟨_, rfl⟩
            rw [hXX] at hX
            have HX : Hid (X.data.toList = [c1]) := by rw [Hid, hX.1, List.drop_take, hdr2, show m2 - m = 1 by omega]; rfl
            have HRC : Hid (readC 2 false d p (S.data.toList.drop a') = readC 2 false d (p.put 2 [c1]) (S.data.toList.drop m2)) := by
              rw [Hid, HRC0.out, hdr2, show escF false p (c1 :: S.data.toList.drop m2) = (if c1 = 10 then (p, S.data.toList.drop m2) else (p.put 2 [c1], S.data.toList.drop m2)) from rfl, if_neg e10]
            have HPUT : Hid (∀ w5, RS w w5 rb w.heap.size S m 0 (.slice va n c) l L → Calls Try.prog 40 #[.slice va n c, .agg #[.int .i64 2, .string X, .string ⟨#[]⟩, .string ⟨#[]⟩, .slice none 0 0, .bool false]] w5 fun e w' => ∃ va7 n7 c7 L7, e = .returned (.slice va7 n7 c7) ∧ RS w w' rb w.heap.size S m 0 (.slice va7 n7 c7) (l ++ [txt 2 [c1]]) L7) := fun w5 h => (RPutS h HLL.out 2 2 rfl X (fun e => absurd e (by decide))).mono (by
              rintro e w' ⟨a1, n1, k1, L1, rfl, h1⟩
              rw [HX.out] at h1
              exact ⟨a1, n1, k1, L1, rfl, h1⟩)
            clear hov hat hch hdr e125 hX hm hm2 ho2 e92 hat2 hch2 hdr2 e10
            go_wp2_with (first
              | (go_at_call 25; first
                  | ((with_reducible refine HO1.out.mono ?_); rintro e w5 ⟨rfl, h5⟩; have HG5 := Lib.hid (HUN.out _ h5); clear h5 q2; simp only [])
                  | ((with_reducible refine (HOB.out _ HRM.out).mono ?_); rintro e w7 ⟨rfl, h7⟩; have HR7 := Lib.hid (HRM.out.under h7); clear h7 q16 f16; have q07 : w7.cell? ⟨rb, 0, none⟩ = some (.string S) := cell_of HR7.out.rr 0; have q17 : w7.cell? ⟨rb, 1, none⟩ = some (.int .i64 m) := cell_of HR7.out.rr 1; have f17 := free_of HR7.out.rr 1; simp only []))
              | (go_at_call 26; first
                  | ((with_reducible refine (HSEE.out _ HG5.out).mono ?_); rintro e w6 ⟨rfl, h6⟩; have HG6 := Lib.hid (HKP.out _ _ HG5.out h6); clear h6; have q16 : w6.cell? ⟨rb, 1, none⟩ = some (.int .i64 a') := cell_of HG6.out.1.rs.rr 1; have f16 := free_of HG6.out.1.rs.rr 1; have HRM := Lib.hid (HG6.out.1.rs.setI m (ai := (m : Int)) rfl); simp only [])
                  | ((with_reducible refine (HSE1.out _ HR7.out).mono ?_); rintro e w8 ⟨rfl, h8⟩; have HR8 := Lib.hid (HR7.out.under h8); clear h8 q07 q17 f17; have q08 : w8.cell? ⟨rb, 0, none⟩ = some (.string S) := cell_of HR8.out.rr 0; have q18 : w8.cell? ⟨rb, 1, none⟩ = some (.int .i64 m) := cell_of HR8.out.rr 1; have f18 := free_of HR8.out.rr 1; simp only [])))
            go_still_tail 16, (by kernel_rfl)
            change wpList _ _ _ _ _ w8.drew
            have HRd := Lib.hid (HR8.out.under (drew_below w8 1))
            clear q08 q18 f18
            go_wp2_with (go_at_call 40; refine (HPUT.out w8.drew HRd.out).mono ?_; rintro e w9 ⟨va7, n7, c7, L7, rfl, h7⟩; have H9 := Lib.hid h7; have q19 : w9.cell? ⟨rb, 1, none⟩ = some (.int .i64 m) := cell_of h7.rr 1; have f19 := free_of h7.rr 1; clear h7; simp only [])
            have HG7 := Lib.hid (HGO.out _ va7 n7 c7 m2 _ L7 _ (RIn.textA HG.out.1 (H9.out.setI m2 (ai := (m2 : Int)) rfl) (.inr rfl) (by simp) hm2S (by show SZ l + 1 + 1 + _ ≤ Z; omega)) HRC.out (by omega))
            go_roundw
            case measure => exact HG7.out.2
            case rel => exact ⟨_, _, _, _, 0, _, _, _, rfl, .inl ⟨rfl, HG7.out.1.out⟩⟩
        have nc092 : ¬ ((c0.toNat : Int) = 92) := fun e => e92 (UInt8.toNat_inj.1 (by have : ((92 : UInt8).toNat : Int) = 92 := rfl; omega))
        have zc092 : ((c0.toNat : Int) == 92) = false := beq_eq_false_iff_ne.2 nc092
        by_cases e96 : c0 = 96
        · as_aux_lemma =>
            have nc096 : (c0.toNat : Int) = 96 := by rw [e96]; rfl
            have HFL : Hid (∀ w5, WGood w w5 rb S 2 false d Z s va n c a' l L p → Calls Try.prog 39 #[.pointer (some ⟨rb, 0, none⟩), .int .i64 2] w5 fun e w' => e = .returned (.tuple #[]) ∧ WBad w w' rb S 2 false d Z s va n c a' l L 2 ∧ meaW rb w' < meaW rb wr) := fun w5 h5 => (fail_any h5.1.rs.rr 2 2 rfl).mono (by
              rintro e w' ⟨rfl, h1, h2⟩
              exact ⟨rfl, HNO.out _ _ _ _ _ _ _ _ (h5.1.rs.rb h1 h2) h5.1.ok (by decide) (by unfold EAt; omega) (by omega) (by rw [HDR.out]; exact readC_bad hee (.inl e96))⟩)
            clear hov hat hch hdr e125 e96
            go_wp2_with (first
              | (go_at_call 25; (with_reducible refine HO1.out.mono ?_); rintro e w5 ⟨rfl, h5⟩; have HG5 := Lib.hid (HUN.out _ h5); clear h5 q2; simp only [])
              | (go_at_call 26; (with_reducible refine (HSEE.out _ HG5.out).mono ?_); rintro e w6 ⟨rfl, h6⟩; have HG6 := Lib.hid (HKP.out _ _ HG5.out h6); clear h6;  simp only [])
              | (go_at_call 39; refine (HFL.out _ HG6.out).mono ?_; rintro e w7 ⟨rfl, h7⟩; have H7 := Lib.hid h7; clear h7; simp only []))
            go_roundw
            case measure => exact H7.out.2
            case rel => exact ⟨_, _, _, _, _, _, _, p, rfl, .inr H7.out.1⟩
        have nc096 : ¬ ((c0.toNat : Int) = 96) := fun e => e96 (UInt8.toNat_inj.1 (by have : ((96 : UInt8).toNat : Int) = 96 := rfl; omega))
        have zc096 : ((c0.toNat : Int) == 96) = false := beq_eq_false_iff_ne.2 nc096
        by_cases e36 : c0 = 36
        · as_aux_lemma =>
            have nc036 : (c0.toNat : Int) = 36 := by rw [e36]; rfl
            have HIN : Hid (readC 2 false d p (S.data.toList.drop a') = match dollF (wordC false (d + 1)) false d p (S.data.toList.drop (a' + 1)) with
                | .error x => .error x
                | .ok (p', r') => readC 2 false d p' r') := by rw [Hid, hdr, e36]; exact readC_doll (by rw [← e36]; exact hee)
            have HDO : Hid (∀ w5, WGood w w5 rb S 2 false d Z s va n c a' l L p → Calls Try.prog 41 #[.pointer (some ⟨rb, 0, none⟩), .slice va n c, .int .i64 d, .bool false] w5 (RStep w rb w.heap.size S d Z (dollF (wordC false (d + 1)) false d p (S.data.toList.drop (a' + 1))))) := fun w5 h => RDollar_any false d hd h.1 hlt hZ6 hS (fun m hm => HIH.out m (by omega))
            have HLEN : Hid (∀ p2 t, dollF (wordC false (d + 1)) false d p (S.data.toList.drop (a' + 1)) = .ok (p2, t) → t.length ≤ S.size - (a' + 1)) := fun p2 t h => by
              have := dollF_len (fun t w r _ hw => wordC_len hw) h
              rw [List.length_drop, dl] at this; exact this
            clear hov hat hch hdr e125 e36
            go_wp2_with (first
              | (go_at_call 25; (with_reducible refine HO1.out.mono ?_); rintro e w5 ⟨rfl, h5⟩; have HG5 := Lib.hid (HUN.out _ h5); clear h5 q2; simp only [])
              | (go_at_call 26; (with_reducible refine (HSEE.out _ HG5.out).mono ?_); rintro e w6 ⟨rfl, h6⟩; have HG6 := Lib.hid (HKP.out _ _ HG5.out h6); clear h6;  simp only [])
              | (go_at_call 41; refine (HDO.out _ HG6.out).mono ?_; rintro e w7 ⟨va7, n7, c7, l7, L7, a7, x7, rfl, hrs7, hok7, hm7⟩; have HRS7 := Lib.hid hrs7; have HOK7 := Lib.hid hok7; have HM7 := Lib.hid hm7; clear hrs7 hok7 hm7; simp only []))
            cases hI : dollF (wordC false (d + 1)) false d p (S.data.toList.drop (a' + 1)) with
            | error y =>
              rw [hI] at HM7 HIN
              have HB7 : Hid (WBad w w7 rb S 2 false d Z s va7 n7 c7 a7 l7 L7 x7 ∧ meaW rb w7 < meaW rb wr) := by
                obtain ⟨e1, e2, e3, e4⟩ := HM7.out
                subst e1
                exact HNO.out _ _ _ _ _ _ _ _ HRS7.out HOK7.out e2 (by omega) e4 HIN.out
              clear hI
              go_roundw
              case measure => exact HB7.out.2
              case rel => exact ⟨_, _, _, _, _, _, _, p, rfl, .inr HB7.out.1⟩
            | ok z =>
              obtain ⟨p2, t⟩ := z
              rw [hI] at HM7 HIN
              have hl := HLEN.out p2 t hI
              have HG7 : Hid (Hid (a ≤ a7 ∧ WGood w w7 rb S 2 false d Z s va7 n7 c7 a7 l7 L7 p2) ∧ meaW rb w7 < meaW rb wr) := by
                obtain ⟨e1, e2, e3, e4, e5⟩ := HM7.out
                subst e1
                have h9 := congrArg List.length e3
                rw [List.length_drop, dl] at h9
                exact HGO.out _ _ _ _ _ _ _ _ ⟨HRS7.out, HOK7.out, e4, e5, e2⟩ (by rw [HIN.out, e3]) (by omega)
              clear hI hl
              go_roundw
              case measure => exact HG7.out.2
              case rel => exact ⟨_, _, _, _, 0, _, _, _, rfl, .inl ⟨rfl, HG7.out.1.out⟩⟩
        have nc036 : ¬ ((c0.toNat : Int) = 36) := fun e => e36 (UInt8.toNat_inj.1 (by have : ((36 : UInt8).toNat : Int) = 36 := rfl; omega))
        have zc036 : ((c0.toNat : Int) == 36) = false := beq_eq_false_iff_ne.2 nc036
        as_aux_lemma =>
          obtain ⟨m, hm⟩ : ∃ m, a' + 1 = m := ⟨_, rfl⟩
          have hmS : m ≤ S.size := by omega
          have ham1 : a' < m := by omega
          have ham : a' ≤ m := by omega
          have hamI : (a' : Int) ≤ (m : Int) := by omega
          have hmSI : (m : Int) ≤ (S.size : Int) := by omega
          have ha0 : (0 : Int) ≤ (a' : Int) := by omega
          have hwm : IntKind.i64.wrap ((a' : Int) + 1) = (m : Int) := (IntWalk.i64_in _ (by omega)).trans (by omega)
          have hX := ext_dt (t := S) (a := a') (b := m) ham hmS
          obtain ⟨X, hXX⟩ : ∃ X, S.extract a' m = X := ⟨_, rfl⟩
          rw [hXX] at hX
          have HX : Hid (X.data.toList = [c0]) := by rw [Hid, hX.1, List.drop_take, hdr, show m - a' = 1 by omega]; rfl
          have HRC : Hid (readC 2 false d p (S.data.toList.drop a') = readC 2 false d (p.put 1 [c0]) (S.data.toList.drop m)) := by rw [Hid, hdr, ← hm]; exact readC_else hee e92 (fun h => e39 h.1) e34 e36 e96
          have HPUT : Hid (∀ w5, WGood w w5 rb S 2 false d Z s va n c a' l L p → Calls Try.prog 40 #[.slice va n c, .agg #[.int .i64 1, .string X, .string ⟨#[]⟩, .string ⟨#[]⟩, .slice none 0 0, .bool false]] w5 fun e w' => ∃ va7 n7 c7 L7, e = .returned (.slice va7 n7 c7) ∧ RS w w' rb w.heap.size S a' 0 (.slice va7 n7 c7) (l ++ [txt 1 [c0]]) L7) := fun w5 h => (RPutS h.1.rs HLL.out 1 1 rfl X (fun _ => by rw [HX.out]; simp)).mono (by
            rintro e w' ⟨a1, n1, c1, L1, rfl, h1⟩
            rw [HX.out] at h1
            exact ⟨a1, n1, c1, L1, rfl, h1⟩)
          clear hov hat hch hdr e125 hX hm
          go_wp2_with (first
            | (go_at_call 25; (with_reducible refine HO1.out.mono ?_); rintro e w5 ⟨rfl, h5⟩; have HG5 := Lib.hid (HUN.out _ h5); clear h5 q2; simp only [])
            | (go_at_call 26; (with_reducible refine (HSEE.out _ HG5.out).mono ?_); rintro e w6 ⟨rfl, h6⟩; have HG6 := Lib.hid (HKP.out _ _ HG5.out h6); clear h6; have q06 : w6.cell? ⟨rb, 0, none⟩ = some (.string S) := cell_of HG6.out.1.rs.rr 0; have q16 : w6.cell? ⟨rb, 1, none⟩ = some (.int .i64 a') := cell_of HG6.out.1.rs.rr 1; have f16 := free_of HG6.out.1.rs.rr 1; simp only []))
          go_still_tail 16, (by kernel_rfl)
          change wpList _ _ _ _ _ w6.drew
          have HGd := Lib.hid (HKP.out w6 w6.drew HG6.out (drew_below w6 1))
          clear q06 q16 f16
          go_wp2_with (go_at_call 40; refine (HPUT.out w6.drew HGd.out).mono ?_; rintro e w7 ⟨va7, n7, c7, L7, rfl, h7⟩; have H7 := Lib.hid h7; have q17 : w7.cell? ⟨rb, 1, none⟩ = some (.int .i64 a') := cell_of h7.rr 1; have f17 := free_of h7.rr 1; clear h7; simp only [])
          have HG7 := Lib.hid (HGO.out _ va7 n7 c7 m _ L7 _ (RIn.textA HG.out.1 (H7.out.setI m (ai := (m : Int)) rfl) (.inl rfl) (by simp) hmS (by show SZ l + 1 + 1 + _ ≤ Z; omega)) HRC.out ham1)
          go_roundw
          case measure => exact HG7.out.2
          case rel => exact ⟨_, _, _, _, 0, _, _, _, rfl, .inl ⟨rfl, HG7.out.1.out⟩⟩
    · have HB := Lib.hid hb
      obtain ⟨h1, h2, h3, h4, h5, h6⟩ := hb
      have q2 : wr.cell? ⟨rb, 2, none⟩ = some (.int .i64 x) := cell_of h1.rr 2
      have hxz : ((x : Int) == 0) = false := beq_eq_false_iff_ne.2 (by omega)
      have hxn : ¬ ((x : Int) = 0) := by omega
      clear h1 h2 h3 h4 h5 h6
      go_wp2_with (go_at_call 36; refine (HBD.out _ _ _ _ _ _ _ _ HB.out).mono ?_; rintro e w6 ⟨va', n', c', rfl, h6⟩; have H6 := Lib.hid h6; clear h6; simp only [])
      exact H6.out
end Go.Proofs.Ytafbheplaheohaa
