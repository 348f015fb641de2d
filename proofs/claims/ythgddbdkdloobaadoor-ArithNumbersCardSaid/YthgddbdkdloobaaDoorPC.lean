import Derived.Test.YthgddbdkdloobaaDoorPB
import Derived.StillTailTactics
namespace Go.Proofs.YthgddbdkdloobaaDoor
open Go.RowKit
set_option linter.unusedVariables false

/-- What a way through the reference's reader ends in. -/
def PostF (s : ByteArray) (pv : Value) (d B : Nat) (w : World) (res : Rs) (e : Ending) (w' : World) : Prop :=
  Kp B w w' ∧ ∃ v : Int, e = .returned (.int .i64 v) ∧ match res with
  | .error c => c ≠ 0 ∧ ∃ p d' z, p ≤ s.size ∧ Rf w' B s pv p d' c z
  | .ok (v', r, z) => v = v' ∧ ∃ p, At s r p ∧ Rf w' B s pv p d 0 z
def Ff (f : Nat) (args : Nat → Array Value) (m : Md) (n : Nat) : Prop :=
  ∀ (B : Nat) (s : ByteArray) (l : Prs) (pv : Value) (r : Bs) (p d : Nat) (z : Bool) (w : World), s.size ≤ 1000000 → At s r p → d ≤ 40 → want m r ≤ n → Rf w B s pv p d 0 z → PV B w pv l →
    Calls Tryd.prog f (args B) w (PostF s pv d B w (ev true (Vl l) n m r z d))
def F22 (n : Nat) : Prop := ∀ lvl : Nat, 1 ≤ lvl → lvl ≤ 11 → Ff 22 (fun B => #[.pointer (some ⟨B, 0, none⟩), .int .i64 lvl]) (.bin lvl) n
def F30 (n : Nat) : Prop := Ff 30 (fun B => #[.pointer (some ⟨B, 0, none⟩)]) .pre n
def F44 (n : Nat) : Prop :=
  ∀ (B : Nat) (s : ByteArray) (l : Prs) (pv : Value) (r : Bs) (p d : Nat) (z : Bool) (w : World) (O : ByteArray), s.size ≤ 1000000 → At s r p → O.data.toList = opL r → d ≤ 40 → want .opd r ≤ n → Rf w B s pv p d 0 z → PV B w pv l →
    Calls Tryd.prog 44 #[.pointer (some ⟨B, 0, none⟩), .string O] w (PostF s pv d B w (ev true (Vl l) n .opd r z d))
theorem opL_40 {r : Bs} : opL r = [40] ↔ r.headD 0 = 40 := by
  constructor
  · intro h
    have hp := opL_prefix r
    rw [h] at hp
    cases r with
    | nil => cases hp
    | cons c t =>
      have : ([c] : Bs) = [40] := hp
      simpa using this
  · intro h
    cases r with
    | nil => simp at h
    | cons c t =>
      obtain rfl : c = 40 := h
      unfold opL
      rw [if_neg (by rw [two_first (by decide)]; simp)]
      rfl
theorem head_40 {r : Bs} (h : r.headD 0 = 40) : digL r = 0 ∧ nmL r = 0 := by
  cases r with
  | nil => simp at h
  | cons c t =>
    obtain rfl : c = 40 := h
    have hl : isLet 40 = false := by decide
    exact ⟨by unfold digL; rw [List.takeWhile_cons, if_neg (by decide)]; rfl, by simp [nmL, hl]⟩
theorem dig_of {s : ByteArray} {r : Bs} {p k : Nat} (hat : At s r p) (hp : p ≤ k) (hk : k ≤ s.size) (h1 : ∀ j, p ≤ j → j < k → isDig (gb s j) = true) (h2 : k = s.size ∨ isDig (gb s k) = false) : digL r = k - p := by
  have hlen := hat.len
  have hj : ∀ j, j < r.length → r[j]? = some (gb s (p + j)) := by
    intro j hj
    rw [← hat.2, List.getElem?_drop]
    exact gb_at (by omega)
  refine tw_at ?_ ?_
  · intro c hc
    obtain ⟨j, hj2⟩ := List.mem_iff_getElem?.1 hc
    have hlt : j < (r.take (k - p)).length := by
      rcases Nat.lt_or_ge j (r.take (k - p)).length with h | h
      · exact h
      · rw [List.getElem?_eq_none h] at hj2; cases hj2
    rw [List.length_take] at hlt
    rw [List.getElem?_take, if_pos (by omega), hj j (by omega)] at hj2
    rw [← Option.some.inj hj2]
    exact h1 _ (by omega) (by omega)
  · rcases h2 with h2 | h2
    · exact .inl (by omega)
    · by_cases hkk : k = s.size
      · exact .inl (by omega)
      · refine .inr ⟨_, hj (k - p) (by omega), ?_⟩
        rw [show p + (k - p) = k by omega]; exact h2
theorem cut_data {s : ByteArray} {r : Bs} {p k : Nat} (hat : At s r p) (hp : p ≤ k) : (s.extract p k).data.toList = r.take (k - p) := by
  rw [ext_data, ← hat.2, List.drop_take]
set_option maxRecDepth 100000 in
set_option maxHeartbeats 8000000 in
theorem plain_step (n : Nat) (ih : F22 n) : F44 (n + 1) := by
  intro B s l pv r p d z w O hs hat ho hd hw hR hP
  obtain ⟨V, hV⟩ : ∃ V, Vl l = V := ⟨_, rfl⟩
  have HV := Lib.hid hV
  rw [hV]
  have hp := hat.1
  have hlen := hat.len
  have HAT := Lib.hid hat
  have HR := Lib.hid hR
  have HP := Lib.hid hP
  have hpI : (p : Int) ≤ (s.size : Int) := by omega
  by_cases h40 : r.headD 0 = 40
  · obtain ⟨hk0, hm0⟩ := head_40 h40
    have hO : O = ⟨#[40]⟩ := bs_ext (by rw [ho, opL_40.2 h40])
    subst hO
    have hr1 : 1 ≤ r.length := by
      cases r with
      | nil => simp at h40
      | cons a t => simp
    have c3 := hR.c3
    have f3 := hR.f3
    have hpT : (p : Int) + 1 ≤ 1000000 := by omega
    obtain ⟨d1, hd1⟩ : ∃ d1, d + 1 = d1 := ⟨_, rfl⟩
    have hdd : (d : Int) + 1 = (d1 : Int) := by omega
    have HDM : Hid ((d1 : Int) - 1 = (d : Int)) := by unfold Hid; omega
    have hd1b : (d1 : Int) ≤ 41 := by omega
    by_cases hd40 : d = 40
    · have hE : ev true V (n + 1) .opd r z d = .error 3 := by rw [ev_opd, if_neg (by omega), if_neg (by omega), if_pos h40, if_pos hd40]
      rw [hE]
      have hd41 : (40 : Int) < (d1 : Int) := by omega
      have HRD := Lib.hid (hR.set3 d1)
      clear hE hk0 hm0 hd1 hlen hr1 hw hR hP hat ih ho h40 hd40
      go_enter Tryd.func44, Tryd.ntmps44
      go_wp2_with fail
      refine (fail_0 HRD.out 3).mono ?_
      rintro e w1 ⟨rfl, hK, hRR⟩
      have HK := Lib.hid hK
      have HR2 := Lib.hid hRR
      clear hK hRR
      go_wp2_with fail
      go_ret
      exact ⟨(Kp.setCell _ _ _ _).trans HK.out, 0, rfl, by decide, p, d1, z, hp, HR2.out⟩
    · have hd41 : ¬ (40 : Int) < (d1 : Int) := by omega
      have hd41D : decide ((40 : Int) < (d1 : Int)) = false := by simpa using hd41
      have hcall : ∀ (w1 : World), Rf w1 B s pv (p + 1) d1 0 z → PV B w1 pv l → Calls Tryd.prog 22 #[.pointer (some ⟨B, 0, none⟩), .int .i64 1] w1 (PostF s pv d1 B w1 (ev true V n (.bin 1) (r.drop 1) z d1)) := by
        intro w1 h1 h2
        have := ih 1 (by omega) (by omega) B s l pv (r.drop 1) (p + 1) d1 z w1 hs (hat.drop hr1) (by omega) (by
          simp only [want] at hw ⊢
          rw [List.length_drop]; omega) h1 h2
        rw [hV] at this
        exact this
      obtain ⟨res, hres⟩ : ∃ res, ev true V n (.bin 1) (r.drop 1) z d1 = res := ⟨_, rfl⟩
      have hE : ev true V (n + 1) .opd r z d = opdOf res := by
        rw [ev_opd, if_neg (by omega), if_neg (by omega), if_pos h40, if_neg hd40, hd1, hres]
        cases res <;> rfl
      rw [hE]
      rw [hres] at hcall
      have HCALL := Lib.hid hcall
      clear hE hk0 hm0 hd1 hlen hr1 hw hR hP hat ih ho h40 hd40 hcall hres
      have c2 := HR.out.c2
      have f2 := HR.out.f2
      go_enter Tryd.func44, Tryd.ntmps44
      go_wp2_with fail
      have HRA := (HR.out.set3 d1).set2 (p + 1)
      have HKA := (Kp.setCell B 3 w (.int .i64 (d1 : Int))).trans (Kp.setCell B 2 _ (.int .i64 ((p + 1 : Nat) : Int)))
      refine (HCALL.out _ HRA (HP.out.kept HKA)).mono ?_
      cases res with
      | error c =>
        rintro e w2 ⟨hK2, v2, rfl, hc0, p2, d2, z2, hp2, hR2⟩
        have HK2 := Lib.hid (HKA.trans hK2)
        have HC0 := Lib.hid hc0
        clear HRA HKA hK2 c2 f2 c3 f3 hc0
        go_wp2_with fail
        refine (sign_any s pv p2 d2 c z2 B _ hs hp2 hR2).mono ?_
        rintro e w3 ⟨rfl, hK3, hR3⟩
        have HK3 := Lib.hid (HK2.out.trans hK3)
        have c4 := hR3.c4
        have HR3 := Lib.hid hR3
        have hsp := (spos_le s p2 hp2).2
        have b1 : ((c : Int) == 0) = false := by rw [beq_eq_false_iff_ne]; have := HC0.out; omega
        have b2 : ((c : Int) != 0) = true := by rw [bne, b1]; rfl
        clear hR2 hK3 hR3
        go_wp2_with fail
        refine (fail_1 HR3.out HC0.out 2).mono ?_
        rintro e w4 ⟨rfl, h⟩
        obtain rfl := h.symm
        go_wp2_with fail
        go_ret
        exact ⟨HK3.out, 0, rfl, HC0.out, _, d2, z2, hsp, HR3.out⟩
      | ok x =>
        obtain ⟨v2, r2, z2⟩ := x
        rintro e w2 ⟨hK2, v2', rfl, rfl, p2, hat2, hR2⟩
        have HK2 := Lib.hid (HKA.trans hK2)
        have HAT2 := Lib.hid hat2
        clear HRA HKA hK2 c2 f2 c3 f3 hat2
        go_wp2_with fail
        refine (sign_any s pv p2 d1 0 z2 B _ hs HAT2.out.1 hR2).mono ?_
        rintro e w3 ⟨rfl, hK3, hR3⟩
        have HK3 := Lib.hid (HK2.out.trans hK3)
        have c4 := hR3.c4
        have c2 := hR3.c2
        have c3 := hR3.c3
        have f2 := hR3.f2
        have f3 := hR3.f3
        have HR3 := Lib.hid hR3
        have hsp := (spos_le s p2 HAT2.out.1).2
        have hAT3 := HAT2.out.skp
        have ho2 := opS_data s (spos s p2)
        rw [hAT3.2] at ho2
        have HAT3 := Lib.hid hAT3
        clear hR2 hK3 hR3 hAT3
        obtain ⟨q, hq⟩ : ∃ q, spos s p2 = q := ⟨_, rfl⟩
        rw [hq] at HR3 c2 hsp ho2 HAT3 ⊢
        obtain ⟨O2, hO2⟩ : ∃ O2, opS s q = O2 := ⟨_, rfl⟩
        rw [hO2] at ho2 ⊢
        clear hq hO2 hdd
        by_cases ho41 : opL (skp r2) = [41]
        · have b1 : (O2.toList == [41]) = true := by rw [str_eq, ho2, decide_eq_true ho41]
          have b2 : (O2.toList != [41]) = false := by rw [bne, b1]; rfl
          have hq1 : 1 ≤ (skp r2).length := by
            have := (opL_len (skp r2)).1
            rw [ho41] at this; simpa using this
          have HAT4 := Lib.hid (HAT3.out.drop hq1)
          have HO : Hid (opdOf (.ok (v2', r2, z2)) = .ok (v2', (skp r2).drop 1, z2)) := by simp only [Hid, opdOf]; rw [if_pos ho41]
          have hqI : (q : Int) + 1 ≤ 1000001 := by omega
          have hdm := HDM.out
          clear ho2 ho41 hq1
          go_wp2_with fail
          go_ret
          rw [HO.out]
          exact ⟨(HK3.out.trans (Kp.setCell _ _ _ _)).trans (Kp.setCell _ _ _ _), v2', rfl, rfl, q + 1, HAT4.out, (HR3.out.set2 (q + 1)).set3 d⟩
        · have b1 : (O2.toList == [41]) = false := by rw [str_eq, ho2, decide_eq_false ho41]
          have b2 : (O2.toList != [41]) = true := by rw [bne, b1]; rfl
          have HO : Hid (opdOf (.ok (v2', r2, z2)) = .error 2) := by simp only [Hid, opdOf]; rw [if_neg ho41]
          clear ho2 ho41
          go_wp2_with fail
          refine (fail_0 HR3.out 2).mono ?_
          rintro e w4 ⟨rfl, hK4, hR4⟩
          have HK4 := Lib.hid (HK3.out.trans hK4)
          have HR4 := Lib.hid hR4
          clear hK4 hR4
          go_wp2_with fail
          go_ret
          rw [HO.out]
          exact ⟨HK4.out, 0, rfl, by decide, q, d1, z2, hsp, HR4.out⟩
  · have hO40 : (O.toList == [40]) = false := by rw [str_eq, ho, decide_eq_false (fun e => h40 (opL_40.1 e))]
    have HW := Lib.hid hw
    obtain ⟨RES, hRES⟩ : ∃ RES, ev true V (n + 1) .opd r z d = RES := ⟨_, rfl⟩
    have HRES := Lib.hid hRES
    have HNO40 := Lib.hid h40
    rw [hRES]
    clear hlen hat hR hP hw ho ih hRES h40
    have c2 := HR.out.c2
    go_enter Tryd.func44, Tryd.ntmps44
    go_wp2_with fail
    go_loopw [] (fun wr => ∃ k : Nat, p ≤ k ∧ k ≤ s.size ∧ Hid (Kp B w wr) ∧ Hid (Rf wr B s pv k d 0 z) ∧ Hid (∀ j, p ≤ j → j < k → isDig (gb s j) = true)) (fun wr => s.size - atW B 2 wr)
    case atStart => exact ⟨p, Nat.le_refl _, hp, Kp.refl _ _, HR.out, fun j h1 h2 => by omega⟩
    case round =>
      obtain ⟨k, hpk, hk, HK, HRR, HB⟩ := hrel
      clear c2
      have c0 := HRR.out.c0
      have c2 := HRR.out.c2
      have f2 := HRR.out.f2
      by_cases hlt : k < s.size
      · have hltI : (k : Int) < (s.size : Int) := by omega
        have hgb := gb_eq s k hlt
        obtain ⟨c, hc⟩ : ∃ c, gb s k = c := ⟨_, rfl⟩
        have HC := Lib.hid hc
        rw [hc] at hgb
        clear hc
        have hsp := fun w => RefDigit_any c w
        obtain ⟨b, hb⟩ : ∃ b, isDig c = b := ⟨_, rfl⟩
        have HBB := Lib.hid hb
        rw [hb] at hsp
        have HSP := Lib.hid hsp
        clear hb hsp
        cases b
        · have HDL : Hid (digL r = k - p) := dig_of HAT.out hpk hk HB.out (.inr (by rw [HC.out]; exact HBB.out))
          go_wp2_with fail
          go_quiet ((go_at_call 36; exact Calls.quiet_of_same (HSP.out _)))
          have HR4 := Lib.hid (HRR.out.drewN nq)
          have HK4 := Lib.hid (HK.out.trans (Kp.drewN B wr nq))
          obtain ⟨w5, hw5⟩ : ∃ w5, wr.drewN nq = w5 := ⟨_, rfl⟩
          rw [hw5] at HR4 HK4 ⊢
          clear hw5 c0 c2 f2
          have c0 := HR4.out.c0
          have c2 := HR4.out.c2
          have f2 := HR4.out.f2
          by_cases hkp : p < k
          · have hpkI : (p : Int) < (k : Int) := by omega
            have hkI : (k : Int) ≤ (s.size : Int) := by omega
            have hcd := cut_data HAT.out hpk
            have hDs : (s.extract p k).size ≤ 1000000 := by rw [ByteArray.size_extract]; omega
            obtain ⟨D, hD⟩ : ∃ D, s.extract p k = D := ⟨_, rfl⟩
            rw [hD] at hcd hDs
            have hdg : ∀ c ∈ D.data.toList, isDig c = true := by
              rw [hcd, ← HDL.out, take_digL]
              exact fun c hc => tw_mem hc
            have hNB := fun w => Refnumber_any D w (by omega) hdg
            rw [hcd] at hNB
            have HNB := Lib.hid hNB
            have HE : Hid (RES = .ok (num (r.take (k - p)), r.drop (k - p), z)) := by
              rw [Hid, ← HRES.out, ev_opd, HDL.out, if_pos (by omega)]
            have HAT5 : Hid (At s (r.drop (k - p)) k) := by
              have h := HAT.out.drop (k := k - p) (by have := digL_le r; rw [HDL.out] at this; exact this)
              rw [show p + (k - p) = k by omega] at h
              exact h
            obtain ⟨nv, hnv⟩ : ∃ nv, num (r.take (k - p)) = nv := ⟨_, rfl⟩
            rw [hnv] at HNB HE
            clear hcd hDs hdg hNB hnv
            go_wp2_with fail
            go_quiet ((go_at_call 54; exact Calls.quiet_of_same (HNB.out _)))
            go_wp2_with fail
            go_ret
            exact ⟨HK4.out.trans (Kp.drewN _ _ _), nv, rfl, by rw [HE.out]; exact ⟨rfl, k, HAT5.out, HR4.out.drewN _⟩⟩
          · have hkp2 : k = p := by omega
            have hpkI : ¬ (p : Int) < (k : Int) := by omega
            have hd0 : digL r = 0 := by rw [HDL.out]; omega
            have hNL := fun w => RefNameLen_any s p w (by omega) hp
            rw [HAT.out.2] at hNL
            have hE := HRES.out
            rw [ev_opd, if_neg (by omega)] at hE
            have hnl := nmL_le r
            have hlen := HAT.out.len
            obtain ⟨q, hq⟩ : ∃ q, nmL r = q := ⟨_, rfl⟩
            rw [hq] at hNL hE hnl
            have HNL := Lib.hid hNL
            have HEE := Lib.hid hE
            clear hNL hE hq hd0 HDL HRES
            subst hkp2
            by_cases hq0 : q = 0
            · subst hq0
              have HE : Hid (RES = .error 2) := by
                rw [Hid, ← HEE.out, if_neg (by omega), if_neg HNO40.out]
              clear HEE hnl hlen
              go_wp2_with fail
              go_quiet ((go_at_call 24; exact Calls.quiet_of_same (HNL.out _)))
              go_wp2_with fail
              refine (fail_0 (HR4.out.drewN _) 2).mono ?_
              rintro e w4 ⟨rfl, hK5, hR5⟩
              have HK5 := Lib.hid ((HK4.out.trans (Kp.drewN _ _ _)).trans hK5)
              have HR5 := Lib.hid hR5
              clear hK5 hR5
              go_wp2_with fail
              go_ret
              exact ⟨HK5.out, 0, rfl, by rw [HE.out]; exact ⟨by decide, k, d, z, hk, HR5.out⟩⟩
            · have hks : k < s.size := by omega
              have b1 : ((q : Int) == 0) = false := by rw [beq_eq_false_iff_ne]; omega
              by_cases hq60 : 60 < q
              · have b2 : (60 : Int) < (q : Int) := by omega
                have HE : Hid (RES = .error 2) := by
                  rw [Hid, ← HEE.out, if_pos (by omega), if_pos (by simp [hq60])]
                clear HEE hnl hlen
                go_wp2_with fail
                go_quiet ((go_at_call 24; exact Calls.quiet_of_same (HNL.out _)))
                go_wp2_with fail
                refine (fail_0 (HR4.out.drewN _) 2).mono ?_
                rintro e w4 ⟨rfl, hK5, hR5⟩
                have HK5 := Lib.hid ((HK4.out.trans (Kp.drewN _ _ _)).trans hK5)
                have HR5 := Lib.hid hR5
                clear hK5 hR5
                go_wp2_with fail
                go_ret
                exact ⟨HK5.out, 0, rfl, by rw [HE.out]; exact ⟨by decide, k, d, z, hk, HR5.out⟩⟩
              · have b2 : ¬ (60 : Int) < (q : Int) := by omega
                have b3 : decide ((60 : Int) < (q : Int)) = false := by simpa using b2
                have hmin : min q 60 = q := by omega
                have hcd := cut_data (k := k + q) HAT.out (by omega)
                rw [show k + q - k = q by omega] at hcd
                have hDs : (s.extract k (k + q)).size ≤ 1000000 := by rw [ByteArray.size_extract]; omega
                obtain ⟨D, hD⟩ : ∃ D, s.extract k (k + q) = D := ⟨_, rfl⟩
                rw [hD] at hcd hDs
                have HNAME := Lib.hid (fun (w1 : World) (h1 : Rf w1 B s pv (k + q) d 0 z) (h2 : PV B w1 pv l) => RefName_any D l s pv (k + q) d z B w1 hDs h1 h2)
                have HVV : Hid (valOf (look (bsl l) D.data.toList) = V (r.take q)) := by rw [Hid, hcd, ← HV.out]; rfl
                have HAT5 := Lib.hid (HAT.out.drop (k := q) hnl)
                have HE : Hid (RES = match V (r.take q) with | none => .error 2 | some v => .ok (v, r.drop q, z)) := by
                  rw [Hid, ← HEE.out, if_pos (by omega), if_neg (by simp [hq60]), hmin]
                  rfl
                have hkq : (k : Int) + (q : Int) ≤ (s.size : Int) := by omega
                have hkqN : k + q ≤ s.size := by omega
                have hq0I : (0 : Int) ≤ (q : Int) := by omega
                clear HEE hnl hlen hcd hmin hltI
                go_wp2_with fail
                go_quiet ((go_at_call 24; exact Calls.quiet_of_same (HNL.out _)))
                go_wp2_with fail
                have HR5 := Lib.hid ((HR4.out.drewN nq).set2 (k + q))
                have HK5 := Lib.hid ((HK4.out.trans (Kp.drewN B w5 nq)).trans (Kp.setCell B 2 _ (.int .i64 ((k + q : Nat) : Int))))
                change Code.wp _ _ _ _ ((w5.drewN nq).setCell ⟨B, 2, none⟩ (.int .i64 ((k + q : Nat) : Int)))
                obtain ⟨w6, hw6⟩ : ∃ w6, (w5.drewN nq).setCell ⟨B, 2, none⟩ (.int .i64 ((k + q : Nat) : Int)) = w6 := ⟨_, rfl⟩
                rw [hw6] at HR5 HK5 ⊢
                clear hw6 c0 c2 f2
                have c0 := HR5.out.c0
                have c2 := HR5.out.c2
                have hkqI : ((k + q : Nat) : Int) ≤ (s.size : Int) := by omega
                have hkkI : (k : Int) ≤ ((k + q : Nat) : Int) := by omega
                clear hkq
                obtain ⟨kq, hkqq⟩ : ∃ kq, k + q = kq := ⟨_, rfl⟩
                rw [hkqq] at c2 hkqI hkkI hD HNAME HR5 HAT5 hkqN
                go_still_tail 11, (by kernel_rfl)
                change wpList _ _ _ _ _ w6.drew
                have HR6 : Hid (Rf w6.drew B s pv kq d 0 z) := HR5.out.drewN 1
                have HK6 : Hid (Kp B w w6.drew) := HK5.out.trans (Kp.drewN B w6 1)
                generalize w6.drew = w7 at HR6 HK6 ⊢
                go_wp2_with fail
                refine (HNAME.out _ HR6.out (HP.out.kept HK6.out)).mono ?_
                rintro e w8 ⟨v, rfl, hK8, hres⟩
                have HK8 := Lib.hid (HK6.out.trans hK8)
                rw [HVV.out] at hres
                have HRS := Lib.hid hres
                clear hK8 hres
                go_wp2_with fail
                go_ret
                refine ⟨HK8.out, v, rfl, ?_⟩
                rw [HE.out]
                have hrs := HRS.out
                cases hvv : V (r.take q) with
                | none =>
                  rw [hvv] at hrs
                  exact ⟨by decide, kq, d, z, hkqN, hrs⟩
                | some x =>
                  rw [hvv] at hrs
                  obtain ⟨rfl, h8⟩ := hrs
                  exact ⟨rfl, kq, HAT5.out, h8⟩
        · go_wp2_with fail
          go_quiet ((go_at_call 36; exact Calls.quiet_of_same (HSP.out _)))
          go_wp2_with fail
          have HR2 := (HRR.out.drewN nq).set2 (k + 1)
          rw [cast1 k]
          refine ⟨⟨k + 1, by omega, by omega, (HK.out.trans (Kp.drewN _ _ _)).trans (Kp.setCell _ _ _ _), HR2, ?_⟩, ?_⟩
          · intro j h1 h2
            by_cases hj : j = k
            · rw [hj, HC.out]; exact HBB.out
            · exact HB.out j h1 (by omega)
          · rw [atW_of HR2.c2, atW_of c2]; omega
      · have hltI : ¬ (k : Int) < (s.size : Int) := by omega
        have HDL : Hid (digL r = k - p) := dig_of HAT.out hpk hk HB.out (.inl (by omega))
        go_wp2_with fail
        go_quiet (fail)
        have HR4 := Lib.hid (HRR.out.drewN nq)
        have HK4 := Lib.hid (HK.out.trans (Kp.drewN B wr nq))
        obtain ⟨w5, hw5⟩ : ∃ w5, wr.drewN nq = w5 := ⟨_, rfl⟩
        rw [hw5] at HR4 HK4 ⊢
        clear hw5 c0 c2 f2
        have c0 := HR4.out.c0
        have c2 := HR4.out.c2
        have f2 := HR4.out.f2
        by_cases hkp : p < k
        · have hpkI : (p : Int) < (k : Int) := by omega
          have hkI : (k : Int) ≤ (s.size : Int) := by omega
          have hcd := cut_data HAT.out hpk
          have hDs : (s.extract p k).size ≤ 1000000 := by rw [ByteArray.size_extract]; omega
          obtain ⟨D, hD⟩ : ∃ D, s.extract p k = D := ⟨_, rfl⟩
          rw [hD] at hcd hDs
          have hdg : ∀ c ∈ D.data.toList, isDig c = true := by
            rw [hcd, ← HDL.out, take_digL]
            exact fun c hc => tw_mem hc
          have hNB := fun w => Refnumber_any D w (by omega) hdg
          rw [hcd] at hNB
          have HNB := Lib.hid hNB
          have HE : Hid (RES = .ok (num (r.take (k - p)), r.drop (k - p), z)) := by
            rw [Hid, ← HRES.out, ev_opd, HDL.out, if_pos (by omega)]
          have HAT5 : Hid (At s (r.drop (k - p)) k) := by
            have h := HAT.out.drop (k := k - p) (by have := digL_le r; rw [HDL.out] at this; exact this)
            rw [show p + (k - p) = k by omega] at h
            exact h
          obtain ⟨nv, hnv⟩ : ∃ nv, num (r.take (k - p)) = nv := ⟨_, rfl⟩
          rw [hnv] at HNB HE
          clear hcd hDs hdg hNB hnv
          go_wp2_with fail
          go_quiet ((go_at_call 54; exact Calls.quiet_of_same (HNB.out _)))
          go_wp2_with fail
          go_ret
          exact ⟨HK4.out.trans (Kp.drewN _ _ _), nv, rfl, by rw [HE.out]; exact ⟨rfl, k, HAT5.out, HR4.out.drewN _⟩⟩
        · have hkp2 : k = p := by omega
          have hpkI : ¬ (p : Int) < (k : Int) := by omega
          have hd0 : digL r = 0 := by rw [HDL.out]; omega
          have hNL := fun w => RefNameLen_any s p w (by omega) hp
          rw [HAT.out.2] at hNL
          have hE := HRES.out
          rw [ev_opd, if_neg (by omega)] at hE
          have hnl := nmL_le r
          have hlen := HAT.out.len
          obtain ⟨q, hq⟩ : ∃ q, nmL r = q := ⟨_, rfl⟩
          rw [hq] at hNL hE hnl
          have HNL := Lib.hid hNL
          have HEE := Lib.hid hE
          clear hNL hE hq hd0 HDL HRES
          subst hkp2
          by_cases hq0 : q = 0
          · subst hq0
            have HE : Hid (RES = .error 2) := by
              rw [Hid, ← HEE.out, if_neg (by omega), if_neg HNO40.out]
            clear HEE hnl hlen
            go_wp2_with fail
            go_quiet ((go_at_call 24; exact Calls.quiet_of_same (HNL.out _)))
            go_wp2_with fail
            refine (fail_0 (HR4.out.drewN _) 2).mono ?_
            rintro e w4 ⟨rfl, hK5, hR5⟩
            have HK5 := Lib.hid ((HK4.out.trans (Kp.drewN _ _ _)).trans hK5)
            have HR5 := Lib.hid hR5
            clear hK5 hR5
            go_wp2_with fail
            go_ret
            exact ⟨HK5.out, 0, rfl, by rw [HE.out]; exact ⟨by decide, k, d, z, hk, HR5.out⟩⟩
          · exact absurd (show k < s.size by omega) hlt
end Go.Proofs.YthgddbdkdloobaaDoor
