import Derived.Test.YthgddbdkdloobaaDoorJ
namespace Go.Proofs.YthgddbdkdloobaaDoor
open Go.RowKit
set_option linter.unusedVariables false

def Vl (l : Prs) (n : Bs) : Option Int := valOf (look (bsl l) n)
/-- What is left, as the place where it stands. -/
def At (s : ByteArray) (r : Bs) (p : Nat) : Prop := p ≤ s.size ∧ s.data.toList.drop p = r
theorem At.len {s : ByteArray} {r : Bs} {p : Nat} (h : At s r p) : r.length = s.size - p := by rw [← h.2, List.length_drop, dlen]
theorem At.drop {s : ByteArray} {r : Bs} {p k : Nat} (h : At s r p) (hk : k ≤ r.length) : At s (r.drop k) (p + k) := by
  have := h.len
  exact ⟨by have := h.1; omega, by rw [← h.2, List.drop_drop]⟩
theorem At.skp {s : ByteArray} {r : Bs} {p : Nat} (h : At s r p) : At s (skp r) (spos s p) := ⟨(spos_le s p h.1).2, by rw [spos_drop s p h.1, h.2]⟩
/-- What a way through the reader ends in. -/
def PostR (s : ByteArray) (pv : Value) (d B : Nat) (w : World) (res : Rs) (e : Ending) (w' : World) : Prop :=
  Kp B w w' ∧ match res with
  | .error c => c ≠ 0 ∧ (∃ v : Int, e = .returned (.tuple #[.int .i64 v, .int .i64 c])) ∧ ∃ p z, p ≤ s.size ∧ Rd w' B s pv p d z
  | .ok (v, r, z) => e = .returned (.tuple #[.int .i64 v, .int .i64 0]) ∧ ∃ p, At s r p ∧ Rd w' B s pv p d z
/-- The contract of one way. -/
def Cf (f : Nat) (args : Nat → Array Value) (m : Md) (n : Nat) : Prop :=
  ∀ (B : Nat) (s : ByteArray) (l : Prs) (pv : Value) (r : Bs) (p d : Nat) (z : Bool) (w : World), s.size ≤ 1000000 → At s r p → d ≤ 40 → want m r ≤ n → Rd w B s pv p d z → PV B w pv l →
    Calls Tryd.prog f (args B) w (PostR s pv d B w (ev false (Vl l) n m r z d))
def C20 (n : Nat) : Prop := ∀ lvl : Nat, 1 ≤ lvl → lvl ≤ 11 → Cf 20 (fun B => #[.pointer (some ⟨B, 0, none⟩), .int .i64 lvl]) (.bin lvl) n
def C25 (n : Nat) : Prop := Cf 25 (fun B => #[.pointer (some ⟨B, 0, none⟩)]) .pre n
def C37 (n : Nat) : Prop := Cf 37 (fun B => #[.pointer (some ⟨B, 0, none⟩)]) .opd n
theorem take_digL (r : Bs) : r.take (digL r) = r.takeWhile isDig := (List.prefix_iff_eq_take.1 (List.takeWhile_prefix isDig)).symm
theorem nm_take {r : Bs} {k : Nat} (h : k ≤ nmL r) : True := trivial
theorem head_of {T : ByteArray} {r : Bs} (h : T.data.toList = r) (w : World) : Calls Tryd.prog 51 #[.string T, .string ⟨#[40]⟩] w fun e w' => e = .returned (.bool (decide (r.headD 0 = 40))) ∧ w' = w := by
  have := Tryd.strings_HasPrefix T ⟨#[40]⟩ w
  have e : Lib.hasPrefix T.data.toList (⟨#[40]⟩ : ByteArray).data.toList = decide (r.headD 0 = 40) := by
    rw [h]
    cases r with
    | nil => rfl
    | cons c t =>
      show (40 == c && true) = decide (c = 40)
      rw [Bool.and_true, Bool.eq_iff_iff, beq_iff_eq, decide_eq_true_iff]
      exact ⟨fun e => e.symm, fun e => e.symm⟩
  rw [e] at this
  exact this
/-- Behind what stands in parentheses. -/
def opdOf (res : Rs) : Rs := match res with | .error e => .error e | .ok (v, r', z) => if opL (skp r') = [41] then .ok (v, (skp r').drop 1, z) else .error 2
theorem sub1 (d : Nat) : ((d + 1 : Nat) : Int) - 1 = (d : Int) := by omega

set_option maxRecDepth 100000 in
set_option maxHeartbeats 4000000 in
theorem operand_step (n : Nat) (ih : C20 n) : C37 (n + 1) := by
  intro B s l pv r p d z w hs hat hd hw hR hP
  have hp := hat.1
  have hlen := hat.len
  have hpI : (p : Int) ≤ (s.size : Int) := by omega
  have hX := drop_data s p
  rw [hat.2] at hX
  have hTs : (s.extract p s.size).size = s.size - p := by rw [ByteArray.size_extract]; omega
  obtain ⟨T, hT⟩ : ∃ T, s.extract p s.size = T := ⟨_, rfl⟩
  rw [hT] at hX hTs
  have hTsz : T.size ≤ 1000000 := by omega
  have HD := Lib.hid (fun w => Digits_any T w (by omega))
  have HNm := Lib.hid (fun w => Name_any T w (by omega))
  rw [hX] at HD HNm
  have hdl := digL_le r
  have hnl := nmL_le r
  have c0 := hR.c0
  have c1 := hR.c1
  have f1 := hR.f1
  by_cases hk : 0 < digL r
  · have hE : ev false (Vl l) (n + 1) .opd r z d = .ok (num (r.take (digL r)), r.drop (digL r), z) := by simp only [ev]; rw [if_pos hk]
    rw [hE]
    have hat2 := hat.drop hdl
    have hnumb : ∀ w, Calls Tryd.prog 48 #[.string (T.extract 0 (digL r))] w fun e w' => e = .returned (.int .i64 (num (r.take (digL r)))) ∧ w' = w := by
      intro w
      have := number_any (T.extract 0 (digL r)) w (by rw [ByteArray.size_extract]; omega) (by
        rw [take_data, hX, take_digL]
        exact fun c hc => tw_mem hc)
      rw [take_data, hX] at this
      exact this
    have HNU := Lib.hid hnumb
    have HAT := Lib.hid hat2
    have HR := Lib.hid hR
    obtain ⟨k, hkk⟩ : ∃ k, digL r = k := ⟨_, rfl⟩
    obtain ⟨N, hN⟩ : ∃ N, num (r.take (digL r)) = N := ⟨_, rfl⟩
    rw [hN] at HNU ⊢
    rw [hkk] at HD HNU HAT hk hdl ⊢
    have hkI : (0 : Int) < (k : Int) := by omega
    have hkT : (k : Int) ≤ (T.size : Int) := by omega
    have hsum : (p : Int) + (k : Int) ≤ 1000000 := by omega
    have hT' := Lib.hid hTs
    clear hE hat2 hnumb hN hkk hat hX hTs hR hlen hk
    go_enter Tryd.func37, Tryd.ntmps37
    go_wp2_with fail
    go_quiet (fail)
    go_wp2_with fail
    refine (HD.out _).mono ?_
    rintro e w1 ⟨rfl, h⟩
    obtain rfl := h.symm
    go_wp2_with fail
    refine (HNU.out _).mono ?_
    rintro e w1 ⟨rfl, h⟩
    obtain rfl := h.symm
    go_wp2_with fail
    go_ret2
    exact ⟨(Kp.drewN _ _ _).trans (Kp.setCell _ _ _ _), rfl, p + k, HAT.out, (HR.out.drewN _).set1 (p + k)⟩
  · have hk0 : digL r = 0 := by omega
    have HR := Lib.hid hR
    by_cases hm : 0 < nmL r
    · -- a name
      obtain ⟨m, hmm⟩ : ∃ m, min (nmL r) 60 = m := ⟨_, rfl⟩
      have hmp : 0 < m := by omega
      have hat2 := hat.drop (k := m) (by omega)
      have HAT := Lib.hid hat2
      have hE : ev false (Vl l) (n + 1) .opd r z d = (match Vl l (r.take m) with | none => .error 2 | some v => .ok (v, r.drop m, z)) := by
        simp only [ev]; rw [if_neg hk, if_pos hm, hmm]; simp only [Bool.false_and, Bool.false_eq_true, if_false]; cases Vl l (r.take m) <;> rfl
      rw [hE]
      have hnmd : ∀ (p' : Nat) (w1 : World), Rd w1 B s pv p' d z → PV B w1 pv l → Calls Tryd.prog 50 #[.pointer (some ⟨B, 0, none⟩), .string (T.extract 0 m)] w1 fun e w' => e = .returned (encV (Vl l (r.take m))) ∧ Below w1.heap.size w1 w' := by
        intro p' w1 h1 h2
        have := named_any (T.extract 0 m) l s pv p' d z B w1 (by rw [ByteArray.size_extract]; omega) h1 h2
        rw [take_data, hX] at this
        exact this
      have HNMD := Lib.hid hnmd
      obtain ⟨Q, hQ⟩ : ∃ Q, Vl l (r.take m) = Q := ⟨_, rfl⟩
      rw [hQ] at HNMD ⊢
      have hmin : min ((nmL r : Nat) : Int) 60 = (m : Int) := by omega
      have hmI : (0 : Int) < (m : Int) := by omega
      have hmT : (m : Int) ≤ (T.size : Int) := by omega
      have hsum : (p : Int) + (m : Int) ≤ 1000000 := by omega
      have HP := Lib.hid hP
      rw [hk0] at HD
      obtain ⟨q, hq⟩ : ∃ q, nmL r = q := ⟨_, rfl⟩
      rw [hq] at HNm hmin
      clear hE hat2 hnmd hQ hat hX hTs hR hlen hk hk0 hmm hm hP hq hnl hdl
      cases Q with
      | none =>
        simp only [encV] at HNMD
        go_enter Tryd.func37, Tryd.ntmps37
        go_wp2_with fail
        go_quiet (fail)
        go_wp2_with fail
        refine (HD.out _).mono ?_
        rintro e w1 ⟨rfl, h⟩
        obtain rfl := h.symm
        go_wp2_with fail
        refine (HNm.out _).mono ?_
        rintro e w1 ⟨rfl, h⟩
        obtain rfl := h.symm
        go_wp2_with fail
        have HR2 := (HR.out.drewN nq).set1 (p + m)
        have hK2 := (Kp.drewN B w nq).trans (Kp.setCell B 1 _ (.int .i64 ((p + m : Nat) : Int)))
        refine (HNMD.out (p + m) _ HR2 (HP.out.kept hK2)).mono ?_
        rintro e w2 ⟨rfl, hB⟩
        have HR3 := HR2.below hB
        have hK3 := hK2.trans (Kp.of_below hB)
        go_wp2_with fail
        go_ret2
        exact ⟨hK3, by decide, ⟨0, rfl⟩, p + m, z, HAT.out.1, HR3⟩
      | some v =>
        simp only [encV] at HNMD
        go_enter Tryd.func37, Tryd.ntmps37
        go_wp2_with fail
        go_quiet (fail)
        go_wp2_with fail
        refine (HD.out _).mono ?_
        rintro e w1 ⟨rfl, h⟩
        obtain rfl := h.symm
        go_wp2_with fail
        refine (HNm.out _).mono ?_
        rintro e w1 ⟨rfl, h⟩
        obtain rfl := h.symm
        go_wp2_with fail
        have HR2 := (HR.out.drewN nq).set1 (p + m)
        have hK2 := (Kp.drewN B w nq).trans (Kp.setCell B 1 _ (.int .i64 ((p + m : Nat) : Int)))
        refine (HNMD.out (p + m) _ HR2 (HP.out.kept hK2)).mono ?_
        rintro e w2 ⟨rfl, hB⟩
        have HR3 := HR2.below hB
        have hK3 := hK2.trans (Kp.of_below hB)
        go_wp2_with fail
        go_ret2
        exact ⟨hK3, rfl, p + m, HAT.out, HR3⟩
    · have hm0 : nmL r = 0 := by omega
      by_cases h40 : r.headD 0 = 40
      · have hHP : ∀ w, Calls Tryd.prog 51 #[.string T, .string ⟨#[40]⟩] w fun e w' => e = .returned (.bool true) ∧ w' = w := by
          intro w
          have := head_of hX w
          rw [decide_eq_true h40] at this
          exact this
        have HHP := Lib.hid hHP
        have hr1 : 1 ≤ r.length := by
          cases r with
          | nil => simp at h40
          | cons a t => simp
        have c3 := hR.c3
        have f3 := hR.f3
        have hpT : (p : Int) + 1 ≤ 1000000 := by omega
        rw [hk0] at HD
        obtain ⟨q0, hq0⟩ : ∃ q, nmL r = q := ⟨_, rfl⟩
        rw [hq0] at HNm
        obtain ⟨m0, hmin⟩ : ∃ m : Int, min ((q0 : Nat) : Int) 60 = m := ⟨_, rfl⟩
        have hm00 : ¬ (0 : Int) < m0 := by omega
        have hm01 : decide ((0 : Int) < m0) = false := by simpa using hm00
        have HP := Lib.hid hP
        by_cases hd40 : d = 40
        · have hE : ev false (Vl l) (n + 1) .opd r z d = .error 3 := by simp only [ev]; rw [if_neg hk, if_neg hm, if_pos h40, if_pos hd40]
          rw [hE]
          have hd40J : ((d : Int) == 40) = true := by rw [beq_iff_eq]; omega
          clear hE hHP hat hX hTs hR hlen hk hk0 hm hm0 hq0 h40 hP hnl hdl hw ih hr1 hd40
          go_enter Tryd.func37, Tryd.ntmps37
          go_wp2_with fail
          go_quiet (fail)
          go_wp2_with fail
          refine (HD.out _).mono ?_
          rintro e w1 ⟨rfl, h⟩
          obtain rfl := h.symm
          go_wp2_with fail
          refine (HNm.out _).mono ?_
          rintro e w1 ⟨rfl, h⟩
          obtain rfl := h.symm
          go_wp2_with fail
          refine (HHP.out _).mono ?_
          rintro e w1 ⟨rfl, h⟩
          obtain rfl := h.symm
          simp only []
          go_wp2_with fail
          go_ret2
          exact ⟨Kp.drewN _ _ _, by decide, ⟨0, rfl⟩, p, z, hp, HR.out.drewN _⟩
        · have hcall : ∀ (w1 : World), Rd w1 B s pv (p + 1) (d + 1) z → PV B w1 pv l → Calls Tryd.prog 20 #[.pointer (some ⟨B, 0, none⟩), .int .i64 1] w1 (PostR s pv (d + 1) B w1 (ev false (Vl l) n (.bin 1) (r.drop 1) z (d + 1))) := by
            intro w1 h1 h2
            refine ih 1 (by omega) (by omega) B s l pv (r.drop 1) (p + 1) (d + 1) z w1 hs (hat.drop hr1) (by omega) ?_ h1 h2
            simp only [want] at hw ⊢
            rw [List.length_drop]; omega
          obtain ⟨res, hres⟩ : ∃ res, ev false (Vl l) n (.bin 1) (r.drop 1) z (d + 1) = res := ⟨_, rfl⟩
          have hE : ev false (Vl l) (n + 1) .opd r z d = opdOf res := by
            simp only [ev]; rw [if_neg hk, if_neg hm, if_pos h40, if_neg hd40, hres]
            cases res <;> rfl
          rw [hE]
          rw [hres] at hcall
          have hd1I : (d : Int) ≤ 40 := by omega
          have hd1J : ((d : Int) == 40) = false := by rw [beq_eq_false_iff_ne]; omega
          obtain ⟨d1, hd1⟩ : ∃ d1, d + 1 = d1 := ⟨_, rfl⟩
          have hdd : (d : Int) + 1 = (d1 : Int) := by omega
          have HDM : Hid ((d1 : Int) - 1 = (d : Int)) := by unfold Hid; omega
          have hd1b : (d1 : Int) ≤ 41 := by omega
          rw [hd1] at hcall
          have HCALL := Lib.hid hcall
          clear hE hHP hat hX hTs hR hlen hk hk0 hm hm0 hq0 h40 hP hnl hdl hw ih hr1 hres hcall hd40 hd1
          cases res with
          | error c =>
            go_enter Tryd.func37, Tryd.ntmps37
            go_wp2_with fail
            go_quiet (fail)
            go_wp2_with fail
            refine (HD.out _).mono ?_
            rintro e w1 ⟨rfl, h⟩
            obtain rfl := h.symm
            go_wp2_with fail
            refine (HNm.out _).mono ?_
            rintro e w1 ⟨rfl, h⟩
            obtain rfl := h.symm
            go_wp2_with fail
            refine (HHP.out _).mono ?_
            rintro e w1 ⟨rfl, h⟩
            obtain rfl := h.symm
            simp only []
            go_wp2_with fail
            have HR2 := ((HR.out.drewN nq).set1 (p + 1)).set3 d1
            have hK2 := ((Kp.drewN B w nq).trans (Kp.setCell B 1 _ (.int .i64 ((p + 1 : Nat) : Int)))).trans (Kp.setCell B 3 _ (.int .i64 (d1 : Int)))
            refine (HCALL.out _ HR2 (HP.out.kept hK2)).mono ?_
            rintro e w2 ⟨hK3, hc0, ⟨v, rfl⟩, p2, z2, hp2, hR3⟩
            have HK3 := Lib.hid (hK2.trans hK3)
            have HR3 := Lib.hid hR3
            have d3 := hR3.c3
            have g3 := hR3.f3
            have HC0 := Lib.hid hc0
            have e1 : ((c : Int) == 0) = false := by rw [beq_eq_false_iff_ne]; omega
            have e2 : ((c : Int) != 0) = true := by rw [bne_iff_ne]; omega
            clear HR2 hK2 hK3 hR3 hc0 c0 c1 c3 f1 f3 hdd
            have hdm := HDM.out
            go_wp2_with fail
            go_ret2
            exact ⟨HK3.out.trans (Kp.setCell _ _ _ _), HC0.out, ⟨0, rfl⟩, p2, z2, hp2, HR3.out.set3 d⟩
          | ok x =>
            obtain ⟨v, r2, z2⟩ := x
            go_enter Tryd.func37, Tryd.ntmps37
            go_wp2_with fail
            go_quiet (fail)
            go_wp2_with fail
            refine (HD.out _).mono ?_
            rintro e w1 ⟨rfl, h⟩
            obtain rfl := h.symm
            go_wp2_with fail
            refine (HNm.out _).mono ?_
            rintro e w1 ⟨rfl, h⟩
            obtain rfl := h.symm
            go_wp2_with fail
            refine (HHP.out _).mono ?_
            rintro e w1 ⟨rfl, h⟩
            obtain rfl := h.symm
            simp only []
            go_wp2_with fail
            have HR2 := ((HR.out.drewN nq).set1 (p + 1)).set3 d1
            have hK2 := ((Kp.drewN B w nq).trans (Kp.setCell B 1 _ (.int .i64 ((p + 1 : Nat) : Int)))).trans (Kp.setCell B 3 _ (.int .i64 (d1 : Int)))
            refine (HCALL.out _ HR2 (HP.out.kept hK2)).mono ?_
            rintro e w2 ⟨hK3, rfl, p2, hat2, hR3⟩
            have HK3 := Lib.hid (hK2.trans hK3)
            have HR3 := Lib.hid hR3
            have HAT2 := Lib.hid hat2
            have d3 := hR3.c3
            have g3 := hR3.f3
            clear HR2 hK2 hK3 hR3 c0 c1 c3 f1 f3 hat2 hdd
            have hdm := HDM.out
            go_wp2_with fail
            clear hdm
            have HR4 := HR3.out.set3 d
            refine (operator_any s pv p2 d z2 B _ hs HAT2.out.1 HR4).mono ?_
            rintro e w3 ⟨rfl, hK4, hR5⟩
            have HK5 := Lib.hid ((HK3.out.trans (Kp.setCell B 3 _ _)).trans hK4)
            have HR5 := Lib.hid hR5
            have d1' := hR5.c1
            have g1 := hR5.f1
            have hAT3 := HAT2.out.skp
            have hsp := (spos_le s p2 HAT2.out.1).2
            have ho := opS_data s (spos s p2)
            rw [hAT3.2] at ho
            have HAT3 := Lib.hid hAT3
            clear HR4 hK4 hR5 d3 g3 hAT3
            obtain ⟨q, hq⟩ : ∃ q, spos s p2 = q := ⟨_, rfl⟩
            rw [hq] at HR5 d1' hsp ho HAT3 ⊢
            clear hq
            obtain ⟨O, hO⟩ : ∃ O, opS s q = O := ⟨_, rfl⟩
            rw [hO] at ho ⊢
            clear hO
            by_cases ho41 : opL (skp r2) = [41]
            · have b1 : (O.toList == [41]) = true := by rw [str_eq, ho, decide_eq_true ho41]
              have b2 : (O.toList != [41]) = false := by rw [bne, b1]; rfl
              have hq1 : 1 ≤ (skp r2).length := by
                have := (opL_len (skp r2)).1
                rw [ho41] at this; simpa using this
              have HAT4 := Lib.hid (HAT3.out.drop hq1)
              have HO : Hid (opdOf (.ok (v, r2, z2)) = .ok (v, (skp r2).drop 1, z2)) := by simp only [Hid, opdOf]; rw [if_pos ho41]
              have hqI : (q : Int) + 1 ≤ 1000001 := by omega
              clear ho ho41 hq1
              go_wp2_with fail
              go_ret2
              rw [HO.out]
              exact ⟨HK5.out.trans (Kp.setCell _ _ _ _), rfl, q + 1, HAT4.out, HR5.out.set1 (q + 1)⟩
            · have b1 : (O.toList == [41]) = false := by rw [str_eq, ho, decide_eq_false ho41]
              have b2 : (O.toList != [41]) = true := by rw [bne, b1]; rfl
              have HO : Hid (opdOf (.ok (v, r2, z2)) = .error 2) := by simp only [Hid, opdOf]; rw [if_neg ho41]
              clear ho ho41
              go_wp2_with fail
              go_ret2
              rw [HO.out]
              exact ⟨HK5.out, by decide, ⟨0, rfl⟩, q, z2, hsp, HR5.out⟩
      · have hE : ev false (Vl l) (n + 1) .opd r z d = .error 2 := by simp only [ev]; rw [if_neg hk, if_neg hm, if_neg h40]
        rw [hE]
        have hHP : ∀ w, Calls Tryd.prog 51 #[.string T, .string ⟨#[40]⟩] w fun e w' => e = .returned (.bool false) ∧ w' = w := by
          intro w
          have := head_of hX w
          rw [decide_eq_false h40] at this
          exact this
        have HHP := Lib.hid hHP
        rw [hk0] at HD
        obtain ⟨q0, hq0⟩ : ∃ q, nmL r = q := ⟨_, rfl⟩
        rw [hq0] at HNm
        obtain ⟨m0, hmin⟩ : ∃ m : Int, min ((q0 : Nat) : Int) 60 = m := ⟨_, rfl⟩
        have hm00 : ¬ (0 : Int) < m0 := by omega
        have hm01 : decide ((0 : Int) < m0) = false := by simpa using hm00
        clear hE hHP hat hX hTs hR hlen hk hk0 hm hm0 hq0 h40 hP hnl hdl hw ih
        go_enter Tryd.func37, Tryd.ntmps37
        go_wp2_with fail
        go_quiet (fail)
        go_wp2_with fail
        refine (HD.out _).mono ?_
        rintro e w1 ⟨rfl, h⟩
        obtain rfl := h.symm
        go_wp2_with fail
        refine (HNm.out _).mono ?_
        rintro e w1 ⟨rfl, h⟩
        obtain rfl := h.symm
        go_wp2_with fail
        refine (HHP.out _).mono ?_
        rintro e w1 ⟨rfl, h⟩
        obtain rfl := h.symm
        simp only []
        go_wp2_with fail
        go_ret2
        exact ⟨Kp.drewN _ _ _, by decide, ⟨0, rfl⟩, p, z, hp, HR.out.drewN _⟩
end Go.Proofs.YthgddbdkdloobaaDoor
