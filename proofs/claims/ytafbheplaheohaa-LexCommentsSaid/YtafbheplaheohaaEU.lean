import Derived.Test.YtafbheplaheohaaET
namespace Go.Proofs.Ytafbheplaheohaa
open Go.RowKit
set_option linter.unusedVariables false

set_option maxRecDepth 100000 in
set_option maxHeartbeats 16000000 in
/-- The document's Tokens. -/
theorem RTokens_any (S : ByteArray) (w : World) (hs : S.size ≤ 9000000000000000000) : Calls Try.prog 14 #[.string S] w (TokP w (tokensF S.data.toList)) := by
  obtain ⟨Q, hQ⟩ : ∃ Q, TokP w (tokensF S.data.toList) = Q := ⟨_, rfl⟩
  rw [hQ]
  have HQ := Lib.hid hQ
  have HRE := Lib.hid (fun w => may_any S w hs)
  clear hQ
  by_cases hm : mayN S.data.toList = 0
  · rw [hm] at HRE
    have HF : Hid (tokensF S.data.toList = tokC S.data.toList []) := tokensF_all hm
    have hs2 : S.size ≤ 16384 := by
      by_cases h : S.size ≤ 16384
      · exact h
      · unfold mayN at hm; rw [dl, if_pos (by omega)] at hm; cases hm
    have HT0 : Hid (RTS w ((w.alloc (.cells #[.string S, .int .i64 0, .int .i64 0] 60)).alloc (.cells op3A 9)) S 0 (.slice none 0 0) [] []) := by
      have b1 : Below w.heap.size w (w.alloc (.cells #[.string S, .int .i64 0, .int .i64 0] 60)) := (Below.refl _ _).alloc (Nat.le_refl _) _
      have b2 : Below (w.alloc (.cells #[.string S, .int .i64 0, .int .i64 0] 60)).heap.size (w.alloc (.cells #[.string S, .int .i64 0, .int .i64 0] 60)) ((w.alloc (.cells #[.string S, .int .i64 0, .int .i64 0] 60)).alloc (.cells op3A 9)) := (Below.refl _ _).alloc (Nat.le_refl _) _
      have e1 : (w.alloc (.cells #[.string S, .int .i64 0, .int .i64 0] 60)).heap.size = w.heap.size + 1 := by simp
      have h1 := heap_alloc_new (w.alloc (.cells #[.string S, .int .i64 0, .int .i64 0] 60)) (.cells op3A 9)
      rw [e1] at h1
      exact ⟨⟨(b2.block _ (by omega)).trans (heap_alloc_new w _), h1, TRow.nil _ _, b1.trans (b2.mono (by omega))⟩, Nat.zero_le _, Nat.zero_le _, rfl⟩
    have HBAD : Hid (∀ x wx, x ≠ 0 → tokC S.data.toList [] = .error x → Below w.heap.size w wx → Q (.returned (.tuple #[.slice none 0 0, .int .i64 x])) wx) := fun x wx h1 h2 h3 => by
      rw [← HQ.out, HF.out, h2]; exact ⟨rfl, h1, h3⟩
    have HEND : Hid (∀ a n c wx l L, n = L.length → l.length ≤ 20000 → tokC S.data.toList [] = .ok l → TRow wx w.heap.size (.slice a n c) l L → Below w.heap.size w wx → Q (.returned (.tuple #[.slice a n c, .int .i64 0])) wx) := fun a n c wx l L h1 hl h2 h3 h4 => by
      rw [← HQ.out, HF.out, h2]
      rw [h1, h3.len] at h3 ⊢
      exact ⟨a, c, L, rfl, h3, h4, hl⟩
    clear hm
    go_enter Try.func14, Try.ntmps14
    go_wp2_with (go_at_call 24; refine (HRE.out _).mono ?_; rintro e w1 ⟨rfl, h1⟩; obtain rfl := h1.symm; simp only [])
    go_loopw [5] (fun v wx => ∃ va n vc, v = .slice va n vc ∧ ∃ a' l L, n = List.length L ∧ Hid (RTS w wx S a' (.slice va n vc) l L)) (fun _ wx => meaR w.heap.size wx)
    case atStart => exact ⟨none, 0, 0, rfl, 0, [], [], rfl, HT0.out⟩
    case round =>
      obtain ⟨va, n, vc, rfl, a', l, L, hn, HT⟩ := hrel
      have HNL := Lib.hid hn
      clear hn
      have hle := HT.out.le
      have hll := HT.out.len
      have HME : Hid (meaR w.heap.size wr = 70001 - a') := meaR_at HT.out.rt.rr
      have HEQ := Lib.hid HT.out.eq
      by_cases hov : S.size ≤ a'
      · as_aux_lemma =>
          have HO1 : Hid (∀ w5, RT w w5 S a' (.slice va n vc) l L → Calls Try.prog 25 #[.pointer (some ⟨w.heap.size, 0, none⟩)] w5 fun e w' => e = .returned (.bool true) ∧ Below w5.heap.size w5 w') := fun w5 h => over_seq h.rr true (decide_eq_true hov)
          have HE : Hid (tokC S.data.toList [] = .ok l) := by
            rw [Hid, HEQ.out, List.drop_of_length_le (by rw [dl]; exact hov)]
            exact tokC_nil rfl
          clear hov
          go_wp2_with (go_at_call 25; (with_reducible refine (HO1.out _ HT.out.rt).mono ?_); rintro e w5 ⟨rfl, h5⟩; have HT5 := Lib.hid (HT.out.rt.under h5); clear h5; simp only [])
          exact HEND.out _ _ _ _ l L HNL.out (by omega) HE.out HT5.out.row HT5.out.below
      · have hlt : a' < S.size := by omega
        have HO1 : Hid (∀ w5, RT w w5 S a' (.slice va n vc) l L → Calls Try.prog 25 #[.pointer (some ⟨w.heap.size, 0, none⟩)] w5 fun e w' => e = .returned (.bool false) ∧ Below w5.heap.size w5 w') := fun w5 h => over_seq h.rr false (decide_eq_false hov)
        have hat := data_get S a' hlt
        obtain ⟨c0, hch⟩ : ∃ ch, S[a']'hlt = ch := ⟨_, rfl⟩
        rw [hch] at hat
        have hdr := at_drop hat
        have HS0 : Hid (∀ w5, RT w w5 S a' (.slice va n vc) l L → Calls Try.prog 26 #[.pointer (some ⟨w.heap.size, 0, none⟩), .int .i64 0] w5 fun e w' => e = .returned (.int .u8 c0.toNat) ∧ Below w5.heap.size w5 w') := fun w5 h => see_seq h.rr 0 0 a' rfl rfl (by omega) (by omega) (seeF_head hdr)
        obtain ⟨m, hm⟩ : ∃ m, a' + 1 = m := ⟨_, rfl⟩
        rw [hm] at hdr
        have hmS : m ≤ S.size := by omega
        have ha0 : (0 : Int) ≤ (a' : Int) := by omega
        have hwm : IntKind.i64.wrap ((a' : Int) + 1) = (m : Int) := (IntWalk.i64_in _ (by omega)).trans (by omega)
        obtain ⟨c1, hc1⟩ : ∃ c1, seeF S m = c1 := ⟨_, rfl⟩
        have HS1 : Hid (∀ w5, RT w w5 S a' (.slice va n vc) l L → Calls Try.prog 26 #[.pointer (some ⟨w.heap.size, 0, none⟩), .int .i64 1] w5 fun e w' => e = .returned (.int .u8 c1.toNat) ∧ Below w5.heap.size w5 w') := fun w5 h => see_seq h.rr 1 1 m rfl hm (by omega) (by omega) hc1
        have HC1 := Lib.hid hc1
        have HDR := Lib.hid hdr
        clear hov hat hch hdr hc1
        by_cases e32 : c0 = 32
        · as_aux_lemma =>
            have nc032 : (c0.toNat : Int) = 32 := by rw [e32]; rfl
            have zc032 : ((c0.toNat : Int) == 32) = true := by rw [nc032]; rfl
            have HE : Hid (tokC S.data.toList [] = tokC (S.data.toList.drop m) l) := by rw [Hid, HEQ.out, HDR.out, e32]; exact tokC_blank' rfl l
            clear e32
            go_wp2_with (first
              | (go_at_call 25; (with_reducible refine (HO1.out _ HT.out.rt).mono ?_); rintro e w5 ⟨rfl, h5⟩; have HT5 := Lib.hid (HT.out.rt.under h5); clear h5; simp only [])
              | (go_at_call 26; (with_reducible refine (HS0.out _ HT5.out).mono ?_); rintro e w6 ⟨rfl, h6⟩; have HT6 := Lib.hid (HT5.out.under h6); clear h6; have q16 : w6.cell? ⟨w.heap.size, 1, none⟩ = some (.int .i64 a') := cell_of HT6.out.rr 1; have f16 := free_of HT6.out.rr 1; simp only []))
            have HN : Hid (RTS w _ S m (.slice va n vc) l L) := ⟨HT6.out.setI m (ai := (m : Int)) rfl, hmS, by omega, HE.out⟩
            go_roundw
            case measure => rw [meaR_at HN.out.rt.rr, HME.out]; omega
            case rel => exact ⟨_, _, _, rfl, _, _, _, HNL.out, HN.out⟩
        have nc032 : ¬ ((c0.toNat : Int) = 32) := fun e => e32 (UInt8.toNat_inj.1 (by have : ((32 : UInt8).toNat : Int) = 32 := rfl; omega))
        have zc032 : ((c0.toNat : Int) == 32) = false := beq_eq_false_iff_ne.2 nc032
        by_cases e9 : c0 = 9
        · as_aux_lemma =>
            have nc09 : (c0.toNat : Int) = 9 := by rw [e9]; rfl
            have zc09 : ((c0.toNat : Int) == 9) = true := by rw [nc09]; rfl
            have HE : Hid (tokC S.data.toList [] = tokC (S.data.toList.drop m) l) := by rw [Hid, HEQ.out, HDR.out, e9]; exact tokC_blank' rfl l
            clear e9
            go_wp2_with (first
              | (go_at_call 25; (with_reducible refine (HO1.out _ HT.out.rt).mono ?_); rintro e w5 ⟨rfl, h5⟩; have HT5 := Lib.hid (HT.out.rt.under h5); clear h5; simp only [])
              | (go_at_call 26; (with_reducible refine (HS0.out _ HT5.out).mono ?_); rintro e w6 ⟨rfl, h6⟩; have HT6 := Lib.hid (HT5.out.under h6); clear h6; have q16 : w6.cell? ⟨w.heap.size, 1, none⟩ = some (.int .i64 a') := cell_of HT6.out.rr 1; have f16 := free_of HT6.out.rr 1; simp only []))
            have HN : Hid (RTS w _ S m (.slice va n vc) l L) := ⟨HT6.out.setI m (ai := (m : Int)) rfl, hmS, by omega, HE.out⟩
            go_roundw
            case measure => rw [meaR_at HN.out.rt.rr, HME.out]; omega
            case rel => exact ⟨_, _, _, rfl, _, _, _, HNL.out, HN.out⟩
        have nc09 : ¬ ((c0.toNat : Int) = 9) := fun e => e9 (UInt8.toNat_inj.1 (by have : ((9 : UInt8).toNat : Int) = 9 := rfl; omega))
        have zc09 : ((c0.toNat : Int) == 9) = false := beq_eq_false_iff_ne.2 nc09
        by_cases e92 : c0 = 92
        · have nc092 : (c0.toNat : Int) = 92 := by rw [e92]; rfl
          have zc092 : ((c0.toNat : Int) == 92) = true := by rw [nc092]; rfl
          by_cases e10 : c1 = 10
          · as_aux_lemma =>
              have nc110 : (c1.toNat : Int) = 10 := by rw [e10]; rfl
              have zc110 : ((c1.toNat : Int) == 10) = true := by rw [nc110]; rfl
              have hh : (S.data.toList.drop m).head? = some 10 := (head_see (by decide)).2 (HC1.out.trans e10)
              obtain ⟨m2, hm2⟩ : ∃ m2, a' + 2 = m2 := ⟨_, rfl⟩
              have hwm2 : IntKind.i64.wrap ((a' : Int) + 2) = (m2 : Int) := (IntWalk.i64_in _ (by omega)).trans (by omega)
              have hdm : S.data.toList.drop m = 10 :: S.data.toList.drop m2 := by
                cases hr : S.data.toList.drop m with
                | nil => rw [hr] at hh; cases hh
                | cons x r =>
                  rw [hr] at hh
                  have hx : x = 10 := by simpa using hh
                  rw [hx, show m2 = m + 1 by omega, ← List.drop_drop, hr]; rfl
              have hm2S : m2 ≤ S.size := by
                have := congrArg List.length hdm
                rw [List.length_drop, List.length_cons, List.length_drop, dl] at this; omega
              have HE : Hid (tokC S.data.toList [] = tokC (S.data.toList.drop m2) l) := by rw [Hid, HEQ.out, HDR.out, e92, hdm]; exact tokC_join _ l
              clear e92 e10 hh hdm
              go_wp2_with (first
                | (go_at_call 25; (with_reducible refine (HO1.out _ HT.out.rt).mono ?_); rintro e w5 ⟨rfl, h5⟩; have HT5 := Lib.hid (HT.out.rt.under h5); clear h5; simp only [])
                | (go_at_call 26; first
                  | ((with_reducible refine (HS0.out _ HT5.out).mono ?_); rintro e w6 ⟨rfl, h6⟩; have HT6 := Lib.hid (HT5.out.under h6); clear h6; simp only [])
                  | ((with_reducible refine (HS1.out _ HT6.out).mono ?_); rintro e w7 ⟨rfl, h7⟩; have HT7 := Lib.hid (HT6.out.under h7); clear h7; have q17 : w7.cell? ⟨w.heap.size, 1, none⟩ = some (.int .i64 a') := cell_of HT7.out.rr 1; have f17 := free_of HT7.out.rr 1; simp only [])))
              have HN : Hid (RTS w _ S m2 (.slice va n vc) l L) := ⟨HT7.out.setI m2 (ai := (m2 : Int)) rfl, hm2S, by omega, HE.out⟩
              go_roundw
              case measure => rw [meaR_at HN.out.rt.rr, HME.out]; omega
              case rel => exact ⟨_, _, _, rfl, _, _, _, HNL.out, HN.out⟩
          · as_aux_lemma =>
              have HSF : Hid (skipF false (S.data.toList.drop a') = c0 :: S.data.toList.drop m) := by
                rw [Hid, HDR.out, e92]
                exact skip_bs (fun h => e10 (HC1.out.symm.trans ((head_see (by decide)).1 h)))
              have nc110 : ¬ ((c1.toNat : Int) = 10) := fun e => e10 (UInt8.toNat_inj.1 (by have : ((10 : UInt8).toNat : Int) = 10 := rfl; omega))
              have zc110 : ((c1.toNat : Int) == 10) = false := beq_eq_false_iff_ne.2 nc110
              have nc035 : ¬ ((c0.toNat : Int) = 35) := by rw [nc092]; decide
              have zc035 : ((c0.toNat : Int) == 35) = false := beq_eq_false_iff_ne.2 nc035
              have H38 := Lib.hid (show c0 ≠ 38 by rw [e92]; decide)
              have nc038 : ¬ ((c0.toNat : Int) = 38) := by rw [nc092]; decide
              have zc038 : ((c0.toNat : Int) == 38) = false := beq_eq_false_iff_ne.2 nc038
              clear e92 e10
              go_wp2_with (first
                | (go_at_call 25; (with_reducible refine (HO1.out _ HT.out.rt).mono ?_); rintro e w5 ⟨rfl, h5⟩; have HT5 := Lib.hid (HT.out.rt.under h5); clear h5; simp only [])
                | (go_at_call 26; first
                  | ((with_reducible refine (HS0.out _ HT5.out).mono ?_); rintro e w6 ⟨rfl, h6⟩; have HT6 := Lib.hid (HT5.out.under h6); clear h6; simp only [])
                  | ((with_reducible refine (HS1.out _ HT6.out).mono ?_); rintro e w7 ⟨rfl, h7⟩; have HT7 := Lib.hid (HT6.out.under h7); clear h7; have q17 : w7.cell? ⟨w.heap.size, 1, none⟩ = some (.int .i64 a') := cell_of HT7.out.rr 1; have f17 := free_of HT7.out.rr 1; simp only [])))
              go_loopw [8, 9] (fun ov iv wx => ∃ (k : Nat) (T : ByteArray), k ≤ 13 ∧ iv = .int .i64 k ∧ ov = .string T ∧ Hid (RT w wx S a' (.slice va n vc) l L ∧ OpR (S.data.toList.drop a') k T)) (fun _ iv _ => 13 - (intOf iv).toNat)
              case atStart => exact ⟨0, ⟨#[]⟩, by omega, rfl, rfl, HT7.out, .inl ⟨rfl, fun o ho => by cases ho⟩⟩
              case round =>
                obtain ⟨k, T, hk, rfl, rfl, HJ⟩ := hrel
                by_cases hT : T.data.toList = []
                · have hTE : T.toList.isEmpty = true := isE_of hT
                  by_cases hlt2 : k < 13
                  · as_aux_lemma =>
                      have hltI : (k : Int) < 13 := by omega
                      have hltd : decide ((k : Int) < 13) = true := decide_eq_true hltI
                      have hk0 : (0 : Int) ≤ (k : Int) := by omega
                      obtain ⟨O, hO, hOk⟩ := op3_at k hlt2
                      have HOK := Lib.hid hOk
                      have HNP : Hid (NoPre3 (S.data.toList.drop a') k) := by
                        rcases HJ.out.2 with h | h
                        · exact h.2
                        · exact absurd hT h.1
                      have q0 : wr.cell? ⟨w.heap.size, 0, none⟩ = some (.string S) := cell_of HJ.out.1.rr 0
                      have q1 : wr.cell? ⟨w.heap.size, 1, none⟩ = some (.int .i64 a') := cell_of HJ.out.1.rr 1
                      have qO : wr.cell? ⟨w.heap.size + 1, k, none⟩ = some (.string O) := (Lib.cell_of_heap HJ.out.1.ops k).trans hO
                      have ad := addn (w.heap.size + 1) 0 k
                      rw [Nat.zero_add] at ad
                      have hX := ext_end (t := S) (a := a') (by omega)
                      obtain ⟨X, hXX⟩ : ∃ X, S.extract a' S.size = X := ⟨_, rfl⟩
                      rw [hXX] at hX
                      have haI : (a' : Int) ≤ (S.size : Int) := by omega
                      obtain ⟨b, hb⟩ : ∃ b, O.data.toList.isPrefixOf (S.data.toList.drop a') = b := ⟨_, rfl⟩
                      have HB := Lib.hid (fun n => Begins_any X O b (by rw [hX.1]; exact hb) (by omega) (wr.drewN n))
                      have HBB := Lib.hid hb
                      clear hX hb hO hOk hT
                      cases b
                      · go_wp2_with fail
                        go_quiet ((go_at_call 27; exact Calls.quiet_of_same (HB.out _)))
                        go_wp2_with fail
                        go_roundw
                        case measure => simp [intOf]; omega
                        case rel => exact ⟨k + 1, T, by omega, by go_num, rfl, HJ.out.1.drewN _, .inl ⟨by simpa [Lib.toList_data] using hTE, HNP.out.succ HOK.out HBB.out⟩⟩
                      · have qO2 : ∀ j, (wr.drewN j).cell? ⟨w.heap.size + 1, k, none⟩ = some (.string O) := fun j => qO
                        go_wp2_with fail
                        go_quiet ((go_at_call 27; exact Calls.quiet_of_same (HB.out _)))
                        go_wp2_with fail
                        have HOp : Hid (OpR (S.data.toList.drop a') (k + 1) O) := by
                          have h1 := HNP.out.hit HOK.out HBB.out
                          refine .inr ⟨fun e => ?_, h1.symm⟩
                          have := (opsR_sub' _ (List.mem_of_getElem? HOK.out)).2.1
                          rw [e] at this; simp at this
                        go_roundw
                        case measure => simp [intOf]; omega
                        case rel => exact ⟨k + 1, O, by omega, by go_num, rfl, HJ.out.1.drewN _, HOp.out⟩
                  · have hkk : k = 13 := by omega
                    subst hkk
                    have hltd : decide (((13 : Nat) : Int) < 13) = false := decide_eq_false (by omega)
                    have HOP : Hid (operator (c0 :: S.data.toList.drop m) = []) := by
                      rw [Hid, ← HDR.out]
                      rcases HJ.out.2 with h | h
                      · exact h.2.all
                      · exact absurd hT h.1
                    have q1 : wr.cell? ⟨w.heap.size, 1, none⟩ = some (.int .i64 a') := cell_of HJ.out.1.rr 1
                    clear hT hlt2
                    · skip
                      have HW := Lib.hid (RWord_any HJ.out.1.rr hle hs2)
                      rw [HDR.out] at HW
                      cases hwf : wordF 1 (c0 :: S.data.toList.drop m) with
                      | error x =>
                        as_aux_lemma =>
                          rw [hwf] at HW
                          have HE : Hid (tokC S.data.toList [] = .error x) := by rw [Hid, HEQ.out]; exact tokC_err HSF.out HOP.out H38.out hwf
                          have HW2 : Hid (Calls Try.prog 28 #[.pointer (some ⟨w.heap.size, 0, none⟩), .bool false, .int .i64 0, .bool false] wr fun e w' => ∃ ua un uc a9, e = .returned (.slice ua un uc) ∧ Rr w' w.heap.size S a9 x ∧ x ≠ 0 ∧ Below w.heap.size w w') := HW.out.mono (by
                            rintro e w' ⟨ua, un, uc, a9, x9, l0, rfl, h1, h2, h3, rfl, h5, h6⟩
                            exact ⟨ua, un, uc, a9, rfl, h1, h5, HJ.out.1.below.trans (h2.below (fun i e => by omega) HJ.out.1.below.size)⟩)
                          clear HW hwf
                          go_wp2_with (go_at_call 28; refine HW2.out.mono ?_; rintro e w8 ⟨ua, un, uc, a9, rfl, h1, h2, h3⟩; have q28 : w8.cell? ⟨w.heap.size, 2, none⟩ = some (.int .i64 x) := cell_of h1 2; have hxz : ((x : Int) == 0) = false := beq_eq_false_iff_ne.2 (by omega); have hxn : ¬ ((x : Int) = 0) := (by omega); have H8 := Lib.hid (And.intro h2 h3); clear h1 h2 h3; simp only [])
                          go_quiet (fail)
                          go_wp2_with fail
                          exact HBAD.out x _ H8.out.1 HE.out (below_drewN'' H8.out.2 _)
                      | ok z =>
                        as_aux_lemma =>
                          obtain ⟨wl, t⟩ := z
                          rw [hwf] at HW
                          have HE : Hid (tokC S.data.toList [] = tokC t (l ++ [.word wl]) ∧ t.length ≤ (S.data.toList.drop m).length) := by
                            have h := tokC_word (l := l) HSF.out HOP.out H38.out hwf
                            exact ⟨HEQ.out.trans h.1, h.2⟩
                          have HW2 : Hid (Calls Try.prog 28 #[.pointer (some ⟨w.heap.size, 0, none⟩), .bool false, .int .i64 0, .bool false] wr fun e w' => ∃ ua un uc a9, e = .returned (.slice ua un uc) ∧ RT w w' S a9 (.slice va n vc) l L ∧ Wd w' (fun k => w.heap.size ≤ k) (.slice ua un uc) wl ∧ a9 ≤ S.size ∧ S.data.toList.drop a9 = t) := HW.out.mono (by
                            rintro e w' ⟨ua, un, uc, a9, x9, l0, rfl, h1, h2, h3, rfl, h5, h6, rfl⟩
                            exact ⟨ua, un, uc, a9, rfl, HJ.out.1.turn h1 h2, h3.mono (fun k hk => Nat.le_trans HJ.out.1.below.size hk), h5, h6⟩)
                          clear HW hwf
                          go_wp2_with (first
                            | (go_at_call 28; refine HW2.out.mono ?_; rintro e w8 ⟨ua, un, uc, a9, rfl, h1, hwd8, hle9, hdr9⟩
                               have q28 : w8.cell? ⟨w.heap.size, 2, none⟩ = some (.int .i64 ((0 : Nat) : Int)) := cell_of h1.rr 2
                               obtain ⟨a2, c2, w10, r10, hrt10⟩ := h1.push HNL.out (by omega) ⟨1, ⟨#[]⟩, .slice ua un uc⟩ (.word wl) ⟨rfl, rfl⟩ hwd8
                               have HR10 := Lib.hid hrt10
                               have H9 := Lib.hid (And.intro hle9 hdr9)
                               clear h1 hwd8 hle9 hdr9 hrt10
                               simp only [])
                            | (at_builtin; refine wpList_run_append _ rfl _ _ 23 23 rfl _ _ rfl rfl r10 ?_))
                          have ht9 : S.size - a9 ≤ S.size - m := by have := HE.out.2; rw [← H9.out.2, List.length_drop, List.length_drop, dl] at this; exact this
                          have hle9 := H9.out.1
                          have HN : Hid (RTS w w10 S a9 (.slice a2 (n + 1) c2) (l ++ [.word wl]) (L ++ [⟨1, ⟨#[]⟩, .slice ua un uc⟩])) := ⟨HR10.out, hle9, by simp; omega, by rw [H9.out.2]; exact HE.out.1⟩
                          go_roundw
                          case measure => rw [meaR_at HN.out.rt.rr, HME.out]; omega
                          case rel => exact ⟨a2, n + 1, c2, rfl, a9, _, _, by rw [List.length_append, ← HNL.out]; rfl, HN.out⟩
                · have hTE : T.toList.isEmpty = false := isE_ne hT
                  have HTO : Hid (T.data.toList = operator (c0 :: S.data.toList.drop m)) := by
                    rw [Hid, ← HDR.out]
                    rcases HJ.out.2 with h | h
                    · exact absurd h.1 hT
                    · exact h.2
                  have HTN := Lib.hid hT
                  have HTS : Hid (1 ≤ T.size ∧ T.size ≤ S.size - a') := by
                    have h1 := op_len (c0 :: S.data.toList.drop m) (by rw [← HTO.out]; exact hT)
                    rw [← HTO.out, dl, List.length_cons, List.length_drop, dl] at h1
                    exact ⟨h1.1, by have := h1.2.1; omega⟩
                  have HE : Hid (tokC S.data.toList [] = tokC (S.data.toList.drop (a' + T.size)) (l ++ [.op T.data.toList])) := by
                    have h1 := tokC_op (l := l) HSF.out (by rw [← HTO.out]; exact hT)
                    rw [← HTO.out, ← HDR.out, List.drop_drop, dl] at h1
                    exact HEQ.out.trans h1
                  have hts1 := HTS.out.1
                  have hts2 := HTS.out.2
                  have hwT : IntKind.i64.wrap ((a' : Int) + (T.size : Int)) = (a' : Int) + (T.size : Int) := IntWalk.i64_in _ (by omega)
                  obtain ⟨a2, c2, w10, r10, hrt10⟩ := HJ.out.1.push HNL.out (by omega) ⟨2, T, .slice none 0 0⟩ (.op T.data.toList) ⟨rfl, rfl⟩ (.nil 0)
                  have HR10 := Lib.hid hrt10
                  have q1x : w10.cell? ⟨w.heap.size, 1, none⟩ = some (.int .i64 a') := cell_of HR10.out.rr 1
                  have f1x := free_of HR10.out.rr 1
                  clear hrt10 hT
                  by_cases hlt2 : k < 13
                  · as_aux_lemma =>
                      have hltI : (k : Int) < 13 := by omega
                      have hltd : decide ((k : Int) < 13) = true := decide_eq_true hltI
                      go_wp2_with (at_builtin; refine wpList_run_append _ rfl _ _ 23 23 rfl _ _ rfl rfl r10 ?_)
                      have HN : Hid (RTS w _ S (a' + T.size) (.slice a2 (n + 1) c2) (l ++ [.op T.data.toList]) (L ++ [⟨2, T, .slice none 0 0⟩])) := ⟨HR10.out.setI (a' + T.size) (ai := (a' : Int) + (T.size : Int)) (by omega), by omega, by simp; omega, HE.out⟩
                      go_roundw
                      case measure => rw [meaR_at HN.out.rt.rr, HME.out]; omega
                      case rel => exact ⟨a2, n + 1, c2, rfl, _, _, _, by rw [List.length_append, ← HNL.out]; rfl, HN.out⟩
                  · as_aux_lemma =>
                      have hkk : k = 13 := by omega
                      subst hkk
                      have hltd : decide (((13 : Nat) : Int) < 13) = false := decide_eq_false (by omega)
                      clear hlt2
                      go_wp2_with (at_builtin; refine wpList_run_append _ rfl _ _ 23 23 rfl _ _ rfl rfl r10 ?_)
                      have HN : Hid (RTS w _ S (a' + T.size) (.slice a2 (n + 1) c2) (l ++ [.op T.data.toList]) (L ++ [⟨2, T, .slice none 0 0⟩])) := ⟨HR10.out.setI (a' + T.size) (ai := (a' : Int) + (T.size : Int)) (by omega), by omega, by simp; omega, HE.out⟩
                      go_roundw
                      case measure => rw [meaR_at HN.out.rt.rr, HME.out]; omega
                      case rel => exact ⟨a2, n + 1, c2, rfl, _, _, _, by rw [List.length_append, ← HNL.out]; rfl, HN.out⟩
        have nc092 : ¬ ((c0.toNat : Int) = 92) := fun e => e92 (UInt8.toNat_inj.1 (by have : ((92 : UInt8).toNat : Int) = 92 := rfl; omega))
        have zc092 : ((c0.toNat : Int) == 92) = false := beq_eq_false_iff_ne.2 nc092
        by_cases e35 : c0 = 35
        · as_aux_lemma =>
            have nc035 : (c0.toNat : Int) = 35 := by rw [e35]; rfl
            have zc035 : ((c0.toNat : Int) == 35) = true := by rw [nc035]; rfl
            have HSK : Hid (skipF false (S.data.toList.drop a') = skipF true (S.data.toList.drop a')) := by rw [Hid, HDR.out, e35]; exact skip_comm _
            go_wp2_with (first
              | (go_at_call 25; (with_reducible refine (HO1.out _ HT.out.rt).mono ?_); rintro e w5 ⟨rfl, h5⟩; have HT5 := Lib.hid (HT.out.rt.under h5); clear h5; simp only [])
              | (go_at_call 26; (with_reducible refine (HS0.out _ HT5.out).mono ?_); rintro e w6 ⟨rfl, h6⟩; have HT6 := Lib.hid (HT5.out.under h6); clear h6; simp only []))
            go_loopw [] (fun wx => ∃ k : Nat, a' ≤ k ∧ k ≤ S.size ∧ Hid (RT w wx S k (.slice va n vc) l L ∧ skipF false (S.data.toList.drop a') = skipF true (S.data.toList.drop k))) (fun wx => meaR w.heap.size wx)
            case atStart => exact ⟨a', Nat.le_refl _, hle, HT6.out, HSK.out⟩
            case round =>
              obtain ⟨k, hak, hkS, HJ⟩ := hrel
              by_cases hov2 : S.size ≤ k
              · as_aux_lemma =>
                  have HO2 : Hid (∀ w5, RT w w5 S k (.slice va n vc) l L → Calls Try.prog 25 #[.pointer (some ⟨w.heap.size, 0, none⟩)] w5 fun e w' => e = .returned (.bool true) ∧ Below w5.heap.size w5 w') := fun w5 h => over_seq h.rr true (decide_eq_true hov2)
                  have HE : Hid (tokC S.data.toList [] = tokC (S.data.toList.drop k) l) := by
                    rw [Hid, HEQ.out]
                    exact tokC_comm_end l HJ.out.2 (.inl (List.drop_of_length_le (by rw [dl]; exact hov2)))
                  have hka : a' < k := by omega
                  clear hov2 e35
                  go_wp2_with (go_at_call 25; (with_reducible refine (HO2.out _ HJ.out.1).mono ?_); rintro e w8 ⟨rfl, h8⟩; have HT8 := Lib.hid (HJ.out.1.under h8); clear h8; simp only [])
                  have HN : Hid (RTS w _ S k (.slice va n vc) l L) := ⟨HT8.out, hkS, by omega, HE.out⟩
                  go_roundw
                  case measure => rw [meaR_at HN.out.rt.rr, HME.out]; omega
                  case rel => exact ⟨_, _, _, rfl, _, _, _, HNL.out, HN.out⟩
              · have hlt2 : k < S.size := by omega
                have HO2 : Hid (∀ w5, RT w w5 S k (.slice va n vc) l L → Calls Try.prog 25 #[.pointer (some ⟨w.heap.size, 0, none⟩)] w5 fun e w' => e = .returned (.bool false) ∧ Below w5.heap.size w5 w') := fun w5 h => over_seq h.rr false (decide_eq_false hov2)
                have hat2 := data_get S k hlt2
                obtain ⟨c2, hch2⟩ : ∃ ch, S[k]'hlt2 = ch := ⟨_, rfl⟩
                rw [hch2] at hat2
                have hdr2 := at_drop hat2
                have HS2 : Hid (∀ w5, RT w w5 S k (.slice va n vc) l L → Calls Try.prog 26 #[.pointer (some ⟨w.heap.size, 0, none⟩), .int .i64 0] w5 fun e w' => e = .returned (.int .u8 c2.toNat) ∧ Below w5.heap.size w5 w') := fun w5 h => see_seq h.rr 0 0 k rfl rfl (by omega) (by omega) (seeF_head hdr2)
                by_cases e2 : c2 = 10
                · as_aux_lemma =>
                    have n10 : (c2.toNat : Int) = 10 := by rw [e2]; rfl
                    have z10 : ((c2.toNat : Int) == 10) = true := by rw [n10]; rfl
                    have HE : Hid (tokC S.data.toList [] = tokC (S.data.toList.drop k) l) := by
                      rw [Hid, HEQ.out]
                      exact tokC_comm_end l HJ.out.2 (.inr (by rw [hdr2, e2]; rfl))
                    have hka : a' < k := by
                      by_cases h : a' = k
                      · subst h
                        rw [HDR.out, e35] at hdr2
                        injection hdr2 with h1
                        rw [e2] at h1; exact absurd h1 (by decide)
                      · omega
                    clear hov2 e35 hat2 hch2 hdr2 e2
                    go_wp2_with (first
                      | (go_at_call 25; (with_reducible refine (HO2.out _ HJ.out.1).mono ?_); rintro e w8 ⟨rfl, h8⟩; have HT8 := Lib.hid (HJ.out.1.under h8); clear h8; simp only [])
                      | (go_at_call 26; (with_reducible refine (HS2.out _ HT8.out).mono ?_); rintro e w9 ⟨rfl, h9⟩; have HT9 := Lib.hid (HT8.out.under h9); clear h9; simp only []))
                    have HN : Hid (RTS w _ S k (.slice va n vc) l L) := ⟨HT9.out, hkS, by omega, HE.out⟩
                    go_roundw
                    case measure => rw [meaR_at HN.out.rt.rr, HME.out]; omega
                    case rel => exact ⟨_, _, _, rfl, _, _, _, HNL.out, HN.out⟩
                · as_aux_lemma =>
                    have n10 : ¬ ((c2.toNat : Int) = 10) := fun e => e2 (UInt8.toNat_inj.1 (by have : ((10 : UInt8).toNat : Int) = 10 := rfl; omega))
                    have z10 : ((c2.toNat : Int) == 10) = false := beq_eq_false_iff_ne.2 n10
                    obtain ⟨k2, hk2⟩ : ∃ k2, k + 1 = k2 := ⟨_, rfl⟩
                    have hwk : IntKind.i64.wrap ((k : Int) + 1) = (k2 : Int) := (IntWalk.i64_in _ (by omega)).trans (by omega)
                    have HSK2 : Hid (skipF false (S.data.toList.drop a') = skipF true (S.data.toList.drop k2)) := by
                      rw [Hid, HJ.out.2, hdr2, skipT_cons, if_neg e2, hk2]
                    clear hov2 e35 hat2 hch2 hdr2 e2
                    go_wp2_with (first
                      | (go_at_call 25; (with_reducible refine (HO2.out _ HJ.out.1).mono ?_); rintro e w8 ⟨rfl, h8⟩; have HT8 := Lib.hid (HJ.out.1.under h8); clear h8; simp only [])
                      | (go_at_call 26; (with_reducible refine (HS2.out _ HT8.out).mono ?_); rintro e w9 ⟨rfl, h9⟩; have HT9 := Lib.hid (HT8.out.under h9); have q1y : w9.cell? ⟨w.heap.size, 1, none⟩ = some (.int .i64 k) := cell_of HT9.out.rr 1; have f1y := free_of HT9.out.rr 1; clear h9; simp only []))
                    have HT11 := Lib.hid (HT9.out.setI k2 (ai := (k2 : Int)) rfl)
                    go_roundw
                    case measure => rw [meaR_at HT11.out.rr, meaR_at HJ.out.1.rr]; omega
                    case rel => exact ⟨k2, by omega, by omega, HT11.out, HSK2.out⟩
        have nc035 : ¬ ((c0.toNat : Int) = 35) := fun e => e35 (UInt8.toNat_inj.1 (by have : ((35 : UInt8).toNat : Int) = 35 := rfl; omega))
        have zc035 : ((c0.toNat : Int) == 35) = false := beq_eq_false_iff_ne.2 nc035
        as_aux_lemma =>
          have HSF : Hid (skipF false (S.data.toList.drop a') = c0 :: S.data.toList.drop m) := by
            rw [Hid, HDR.out]
            exact skip_stop (by show (c0 == 32 || c0 == 9) = false; simp [e32, e9]) e92 e35
          clear e92 e35 e32 e9
          go_wp2_with (first
            | (go_at_call 25; (with_reducible refine (HO1.out _ HT.out.rt).mono ?_); rintro e w5 ⟨rfl, h5⟩; have HT5 := Lib.hid (HT.out.rt.under h5); clear h5; simp only [])
            | (go_at_call 26; (with_reducible refine (HS0.out _ HT5.out).mono ?_); rintro e w6 ⟨rfl, h6⟩; have HT6 := Lib.hid (HT5.out.under h6); clear h6; simp only []))
          go_loopw [8, 9] (fun ov iv wx => ∃ (k : Nat) (T : ByteArray), k ≤ 13 ∧ iv = .int .i64 k ∧ ov = .string T ∧ Hid (RT w wx S a' (.slice va n vc) l L ∧ OpR (S.data.toList.drop a') k T)) (fun _ iv _ => 13 - (intOf iv).toNat)
          case atStart => exact ⟨0, ⟨#[]⟩, by omega, rfl, rfl, HT6.out, .inl ⟨rfl, fun o ho => by cases ho⟩⟩
          case round =>
            obtain ⟨k, T, hk, rfl, rfl, HJ⟩ := hrel
            by_cases hT : T.data.toList = []
            · have hTE : T.toList.isEmpty = true := isE_of hT
              by_cases hlt2 : k < 13
              · as_aux_lemma =>
                  have hltI : (k : Int) < 13 := by omega
                  have hltd : decide ((k : Int) < 13) = true := decide_eq_true hltI
                  have hk0 : (0 : Int) ≤ (k : Int) := by omega
                  obtain ⟨O, hO, hOk⟩ := op3_at k hlt2
                  have HOK := Lib.hid hOk
                  have HNP : Hid (NoPre3 (S.data.toList.drop a') k) := by
                    rcases HJ.out.2 with h | h
                    · exact h.2
                    · exact absurd hT h.1
                  have q0 : wr.cell? ⟨w.heap.size, 0, none⟩ = some (.string S) := cell_of HJ.out.1.rr 0
                  have q1 : wr.cell? ⟨w.heap.size, 1, none⟩ = some (.int .i64 a') := cell_of HJ.out.1.rr 1
                  have qO : wr.cell? ⟨w.heap.size + 1, k, none⟩ = some (.string O) := (Lib.cell_of_heap HJ.out.1.ops k).trans hO
                  have ad := addn (w.heap.size + 1) 0 k
                  rw [Nat.zero_add] at ad
                  have hX := ext_end (t := S) (a := a') (by omega)
                  obtain ⟨X, hXX⟩ : ∃ X, S.extract a' S.size = X := ⟨_, rfl⟩
                  rw [hXX] at hX
                  have haI : (a' : Int) ≤ (S.size : Int) := by omega
                  obtain ⟨b, hb⟩ : ∃ b, O.data.toList.isPrefixOf (S.data.toList.drop a') = b := ⟨_, rfl⟩
                  have HB := Lib.hid (fun n => Begins_any X O b (by rw [hX.1]; exact hb) (by omega) (wr.drewN n))
                  have HBB := Lib.hid hb
                  clear hX hb hO hOk hT
                  cases b
                  · go_wp2_with fail
                    go_quiet ((go_at_call 27; exact Calls.quiet_of_same (HB.out _)))
                    go_wp2_with fail
                    go_roundw
                    case measure => simp [intOf]; omega
                    case rel => exact ⟨k + 1, T, by omega, by go_num, rfl, HJ.out.1.drewN _, .inl ⟨by simpa [Lib.toList_data] using hTE, HNP.out.succ HOK.out HBB.out⟩⟩
                  · have qO2 : ∀ j, (wr.drewN j).cell? ⟨w.heap.size + 1, k, none⟩ = some (.string O) := fun j => qO
                    go_wp2_with fail
                    go_quiet ((go_at_call 27; exact Calls.quiet_of_same (HB.out _)))
                    go_wp2_with fail
                    have HOp : Hid (OpR (S.data.toList.drop a') (k + 1) O) := by
                      have h1 := HNP.out.hit HOK.out HBB.out
                      refine .inr ⟨fun e => ?_, h1.symm⟩
                      have := (opsR_sub' _ (List.mem_of_getElem? HOK.out)).2.1
                      rw [e] at this; simp at this
                    go_roundw
                    case measure => simp [intOf]; omega
                    case rel => exact ⟨k + 1, O, by omega, by go_num, rfl, HJ.out.1.drewN _, HOp.out⟩
              · have hkk : k = 13 := by omega
                subst hkk
                have hltd : decide (((13 : Nat) : Int) < 13) = false := decide_eq_false (by omega)
                have HOP : Hid (operator (c0 :: S.data.toList.drop m) = []) := by
                  rw [Hid, ← HDR.out]
                  rcases HJ.out.2 with h | h
                  · exact h.2.all
                  · exact absurd hT h.1
                have q1 : wr.cell? ⟨w.heap.size, 1, none⟩ = some (.int .i64 a') := cell_of HJ.out.1.rr 1
                clear hT hlt2
                by_cases e38 : c0 = 38
                · as_aux_lemma =>
                    have nc038 : (c0.toNat : Int) = 38 := by rw [e38]; rfl
                    have zc038 : ((c0.toNat : Int) == 38) = true := by rw [nc038]; rfl
                    have HE : Hid (tokC S.data.toList [] = .error 2) := by
                      have h2 := HOP.out
                      rw [e38] at h2
                      rw [Hid, HEQ.out]
                      exact tokC_bad (by rw [HSF.out, e38]) h2
                    clear e38
                    go_wp2_with fail
                    exact HBAD.out 2 _ (by decide) HE.out HJ.out.1.below
                · have H38 := Lib.hid e38
                  have nc038 : ¬ ((c0.toNat : Int) = 38) := fun e => e38 (UInt8.toNat_inj.1 (by have : ((38 : UInt8).toNat : Int) = 38 := rfl; omega))
                  have zc038 : ((c0.toNat : Int) == 38) = false := beq_eq_false_iff_ne.2 nc038
                  clear e38
                  have HW := Lib.hid (RWord_any HJ.out.1.rr hle hs2)
                  rw [HDR.out] at HW
                  cases hwf : wordF 1 (c0 :: S.data.toList.drop m) with
                  | error x =>
                    as_aux_lemma =>
                      rw [hwf] at HW
                      have HE : Hid (tokC S.data.toList [] = .error x) := by rw [Hid, HEQ.out]; exact tokC_err HSF.out HOP.out H38.out hwf
                      have HW2 : Hid (Calls Try.prog 28 #[.pointer (some ⟨w.heap.size, 0, none⟩), .bool false, .int .i64 0, .bool false] wr fun e w' => ∃ ua un uc a9, e = .returned (.slice ua un uc) ∧ Rr w' w.heap.size S a9 x ∧ x ≠ 0 ∧ Below w.heap.size w w') := HW.out.mono (by
                        rintro e w' ⟨ua, un, uc, a9, x9, l0, rfl, h1, h2, h3, rfl, h5, h6⟩
                        exact ⟨ua, un, uc, a9, rfl, h1, h5, HJ.out.1.below.trans (h2.below (fun i e => by omega) HJ.out.1.below.size)⟩)
                      clear HW hwf
                      go_wp2_with (go_at_call 28; refine HW2.out.mono ?_; rintro e w8 ⟨ua, un, uc, a9, rfl, h1, h2, h3⟩; have q28 : w8.cell? ⟨w.heap.size, 2, none⟩ = some (.int .i64 x) := cell_of h1 2; have hxz : ((x : Int) == 0) = false := beq_eq_false_iff_ne.2 (by omega); have hxn : ¬ ((x : Int) = 0) := (by omega); have H8 := Lib.hid (And.intro h2 h3); clear h1 h2 h3; simp only [])
                      go_quiet (fail)
                      go_wp2_with fail
                      exact HBAD.out x _ H8.out.1 HE.out (below_drewN'' H8.out.2 _)
                  | ok z =>
                    as_aux_lemma =>
                      obtain ⟨wl, t⟩ := z
                      rw [hwf] at HW
                      have HE : Hid (tokC S.data.toList [] = tokC t (l ++ [.word wl]) ∧ t.length ≤ (S.data.toList.drop m).length) := by
                        have h := tokC_word (l := l) HSF.out HOP.out H38.out hwf
                        exact ⟨HEQ.out.trans h.1, h.2⟩
                      have HW2 : Hid (Calls Try.prog 28 #[.pointer (some ⟨w.heap.size, 0, none⟩), .bool false, .int .i64 0, .bool false] wr fun e w' => ∃ ua un uc a9, e = .returned (.slice ua un uc) ∧ RT w w' S a9 (.slice va n vc) l L ∧ Wd w' (fun k => w.heap.size ≤ k) (.slice ua un uc) wl ∧ a9 ≤ S.size ∧ S.data.toList.drop a9 = t) := HW.out.mono (by
                        rintro e w' ⟨ua, un, uc, a9, x9, l0, rfl, h1, h2, h3, rfl, h5, h6, rfl⟩
                        exact ⟨ua, un, uc, a9, rfl, HJ.out.1.turn h1 h2, h3.mono (fun k hk => Nat.le_trans HJ.out.1.below.size hk), h5, h6⟩)
                      clear HW hwf
                      go_wp2_with (first
                        | (go_at_call 28; refine HW2.out.mono ?_; rintro e w8 ⟨ua, un, uc, a9, rfl, h1, hwd8, hle9, hdr9⟩
                           have q28 : w8.cell? ⟨w.heap.size, 2, none⟩ = some (.int .i64 ((0 : Nat) : Int)) := cell_of h1.rr 2
                           obtain ⟨a2, c2, w10, r10, hrt10⟩ := h1.push HNL.out (by omega) ⟨1, ⟨#[]⟩, .slice ua un uc⟩ (.word wl) ⟨rfl, rfl⟩ hwd8
                           have HR10 := Lib.hid hrt10
                           have H9 := Lib.hid (And.intro hle9 hdr9)
                           clear h1 hwd8 hle9 hdr9 hrt10
                           simp only [])
                        | (at_builtin; refine wpList_run_append _ rfl _ _ 23 23 rfl _ _ rfl rfl r10 ?_))
                      have ht9 : S.size - a9 ≤ S.size - m := by have := HE.out.2; rw [← H9.out.2, List.length_drop, List.length_drop, dl] at this; exact this
                      have hle9 := H9.out.1
                      have HN : Hid (RTS w w10 S a9 (.slice a2 (n + 1) c2) (l ++ [.word wl]) (L ++ [⟨1, ⟨#[]⟩, .slice ua un uc⟩])) := ⟨HR10.out, hle9, by simp; omega, by rw [H9.out.2]; exact HE.out.1⟩
                      go_roundw
                      case measure => rw [meaR_at HN.out.rt.rr, HME.out]; omega
                      case rel => exact ⟨a2, n + 1, c2, rfl, a9, _, _, by rw [List.length_append, ← HNL.out]; rfl, HN.out⟩
            · have hTE : T.toList.isEmpty = false := isE_ne hT
              have HTO : Hid (T.data.toList = operator (c0 :: S.data.toList.drop m)) := by
                rw [Hid, ← HDR.out]
                rcases HJ.out.2 with h | h
                · exact absurd h.1 hT
                · exact h.2
              have HTN := Lib.hid hT
              have HTS : Hid (1 ≤ T.size ∧ T.size ≤ S.size - a') := by
                have h1 := op_len (c0 :: S.data.toList.drop m) (by rw [← HTO.out]; exact hT)
                rw [← HTO.out, dl, List.length_cons, List.length_drop, dl] at h1
                exact ⟨h1.1, by have := h1.2.1; omega⟩
              have HE : Hid (tokC S.data.toList [] = tokC (S.data.toList.drop (a' + T.size)) (l ++ [.op T.data.toList])) := by
                have h1 := tokC_op (l := l) HSF.out (by rw [← HTO.out]; exact hT)
                rw [← HTO.out, ← HDR.out, List.drop_drop, dl] at h1
                exact HEQ.out.trans h1
              have hts1 := HTS.out.1
              have hts2 := HTS.out.2
              have hwT : IntKind.i64.wrap ((a' : Int) + (T.size : Int)) = (a' : Int) + (T.size : Int) := IntWalk.i64_in _ (by omega)
              obtain ⟨a2, c2, w10, r10, hrt10⟩ := HJ.out.1.push HNL.out (by omega) ⟨2, T, .slice none 0 0⟩ (.op T.data.toList) ⟨rfl, rfl⟩ (.nil 0)
              have HR10 := Lib.hid hrt10
              have q1x : w10.cell? ⟨w.heap.size, 1, none⟩ = some (.int .i64 a') := cell_of HR10.out.rr 1
              have f1x := free_of HR10.out.rr 1
              clear hrt10 hT
              by_cases hlt2 : k < 13
              · as_aux_lemma =>
                  have hltI : (k : Int) < 13 := by omega
                  have hltd : decide ((k : Int) < 13) = true := decide_eq_true hltI
                  go_wp2_with (at_builtin; refine wpList_run_append _ rfl _ _ 23 23 rfl _ _ rfl rfl r10 ?_)
                  have HN : Hid (RTS w _ S (a' + T.size) (.slice a2 (n + 1) c2) (l ++ [.op T.data.toList]) (L ++ [⟨2, T, .slice none 0 0⟩])) := ⟨HR10.out.setI (a' + T.size) (ai := (a' : Int) + (T.size : Int)) (by omega), by omega, by simp; omega, HE.out⟩
                  go_roundw
                  case measure => rw [meaR_at HN.out.rt.rr, HME.out]; omega
                  case rel => exact ⟨a2, n + 1, c2, rfl, _, _, _, by rw [List.length_append, ← HNL.out]; rfl, HN.out⟩
              · as_aux_lemma =>
                  have hkk : k = 13 := by omega
                  subst hkk
                  have hltd : decide (((13 : Nat) : Int) < 13) = false := decide_eq_false (by omega)
                  clear hlt2
                  go_wp2_with (at_builtin; refine wpList_run_append _ rfl _ _ 23 23 rfl _ _ rfl rfl r10 ?_)
                  have HN : Hid (RTS w _ S (a' + T.size) (.slice a2 (n + 1) c2) (l ++ [.op T.data.toList]) (L ++ [⟨2, T, .slice none 0 0⟩])) := ⟨HR10.out.setI (a' + T.size) (ai := (a' : Int) + (T.size : Int)) (by omega), by omega, by simp; omega, HE.out⟩
                  go_roundw
                  case measure => rw [meaR_at HN.out.rt.rr, HME.out]; omega
                  case rel => exact ⟨a2, n + 1, c2, rfl, _, _, _, by rw [List.length_append, ← HNL.out]; rfl, HN.out⟩
  · have HF : Hid (tokensF S.data.toList = .error (mayN S.data.toList)) := tokensF_bad hm
    obtain ⟨x, hx⟩ : ∃ x, mayN S.data.toList = x := ⟨_, rfl⟩
    rw [hx] at HRE HF hm
    have hxI : ((x : Int) == 0) = false := beq_eq_false_iff_ne.2 (by omega)
    have hxn : ¬ ((x : Int) = 0) := by omega
    have HM := Lib.hid hm
    clear hx hm
    go_enter Try.func14, Try.ntmps14
    go_wp2_with (go_at_call 24; refine (HRE.out _).mono ?_; rintro e w1 ⟨rfl, h1⟩; obtain rfl := h1.symm; simp only [])
    rw [← HQ.out, HF.out]
    exact ⟨rfl, HM.out, Below.refl _ _⟩
end Go.Proofs.Ytafbheplaheohaa
