import Derived.Test.YthgddbdkdloobaaDoorG
namespace Go.Proofs.YthgddbdkdloobaaDoor
open Go.RowKit
set_option linter.unusedVariables false

theorem two_cases (U : ByteArray) : U = ⟨#[124, 124]⟩ ∨ U = ⟨#[38, 38]⟩ ∨ U = ⟨#[61, 61]⟩ ∨ U = ⟨#[33, 61]⟩ ∨ U = ⟨#[60, 61]⟩ ∨ U = ⟨#[62, 61]⟩ ∨ U = ⟨#[60, 60]⟩ ∨ U = ⟨#[62, 62]⟩ ∨ (¬ U.data.toList ∈ twos ∧ (U.toList == [124, 124]) = false ∧ (U.toList == [38, 38]) = false ∧ (U.toList == [61, 61]) = false ∧ (U.toList == [33, 61]) = false ∧ (U.toList == [60, 61]) = false ∧ (U.toList == [62, 61]) = false ∧ (U.toList == [60, 60]) = false ∧ (U.toList == [62, 62]) = false) := by
  by_cases h0 : U.data.toList = [124, 124]
  · exact .inl (bs_ext h0)
  by_cases h1 : U.data.toList = [38, 38]
  · exact .inr (.inl (bs_ext h1))
  by_cases h2 : U.data.toList = [61, 61]
  · exact .inr (.inr (.inl (bs_ext h2)))
  by_cases h3 : U.data.toList = [33, 61]
  · exact .inr (.inr (.inr (.inl (bs_ext h3))))
  by_cases h4 : U.data.toList = [60, 61]
  · exact .inr (.inr (.inr (.inr (.inl (bs_ext h4)))))
  by_cases h5 : U.data.toList = [62, 61]
  · exact .inr (.inr (.inr (.inr (.inr (.inl (bs_ext h5))))))
  by_cases h6 : U.data.toList = [60, 60]
  · exact .inr (.inr (.inr (.inr (.inr (.inr (.inl (bs_ext h6)))))))
  by_cases h7 : U.data.toList = [62, 62]
  · exact .inr (.inr (.inr (.inr (.inr (.inr (.inr (.inl (bs_ext h7))))))))
  exact .inr (.inr (.inr (.inr (.inr (.inr (.inr (.inr (⟨by simp only [twos, List.mem_cons, h0, h1, h2, h3, h4, h5, h6, h7, List.not_mem_nil, or_self, not_false_eq_true], by rw [str_eq, decide_eq_false h0], by rw [str_eq, decide_eq_false h1], by rw [str_eq, decide_eq_false h2], by rw [str_eq, decide_eq_false h3], by rw [str_eq, decide_eq_false h4], by rw [str_eq, decide_eq_false h5], by rw [str_eq, decide_eq_false h6], by rw [str_eq, decide_eq_false h7]⟩))))))))
theorem opS_eq {s : ByteArray} {q : Nat} {U : ByteArray} (h : U.data.toList = opL (s.data.toList.drop q)) : U = opS s q := bs_ext h
theorem spos_idem {s : ByteArray} {p : Nat} (hp : p ≤ s.size) : spos s (spos s p) = spos s p := by
  unfold spos
  have h := spos_drop s p hp
  unfold spos at h
  rw [h]
  have : skp (skp (s.data.toList.drop p)) = skp (s.data.toList.drop p) := by
    unfold skp
    generalize s.data.toList.drop p = l
    induction l with
    | nil => rfl
    | cons c t ih =>
      rw [List.dropWhile_cons]
      cases hc : isBl c with
      | true => simpa using ih
      | false => simp [hc]
  rw [this]
set_option maxRecDepth 100000 in
set_option maxHeartbeats 4000000 in
theorem operator_any (s : ByteArray) (pv : Value) (p d : Nat) (z : Bool) (B : Nat) (w : World) (hs : s.size ≤ 1000000) (hp : p ≤ s.size) (h : Rd w B s pv p d z) :
    Calls Tryd.prog 26 #[.pointer (some ⟨B, 0, none⟩)] w fun e w' => e = .returned (.string (opS s (spos s p))) ∧ Kp B w w' ∧ Rd w' B s pv (spos s p) d z := by
  have HK := Lib.hid (skip_any s pv p d z B w hs hp h)
  have hq := (spos_le s p hp).2
  obtain ⟨q, hqq⟩ : ∃ q, spos s p = q := ⟨_, rfl⟩
  rw [hqq] at HK hq ⊢
  clear hqq h
  have hqI : (q : Int) ≤ (s.size : Int) := by omega
  have hX := drop_data s q
  have hlT : (s.extract q s.size).size = s.size - q := by rw [ByteArray.size_extract]; omega
  obtain ⟨T, hT⟩ : ∃ T, s.extract q s.size = T := ⟨_, rfl⟩
  rw [hT] at hX hlT
  have HT := Lib.hid hT
  have hl := dlen T
  have HX := Lib.hid hX
  have key : ∀ (R : ByteArray), R.data.toList = opL T.data.toList → (∀ (w1 : World), Rd w1 B s pv q d z → True) → True := fun _ _ _ => trivial
  clear key
  obtain ⟨O, hO⟩ : ∃ O, opS s q = O := ⟨_, rfl⟩
  have HO : Hid (∀ U : ByteArray, U.data.toList = opL T.data.toList → U = O) := by
    intro U hU
    rw [← hO]
    exact opS_eq (by rw [hU, hX])
  rw [hO]
  clear hO hX hlT
  by_cases h2 : 2 ≤ T.size
  · have h2I : (2 : Int) ≤ (T.size : Int) := by omega
    have h1I : (1 : Int) ≤ (T.size : Int) := by omega
    have hUd := take_data T 2
    have hUsz : (T.extract 0 2).size = 2 := by rw [ByteArray.size_extract]; omega
    obtain ⟨U, hU⟩ : ∃ U, T.extract 0 2 = U := ⟨_, rfl⟩
    rw [hU] at hUd hUsz
    have hge : (T.toList == []) = false := by rw [str_eq, decide_eq_false (fun e => by rw [e] at hl; simp at hl; omega)]
    have hemp : T.toList.isEmpty = false := by
      rw [Lib.toList_data]
      cases hh : T.data.toList with
      | nil => rw [hh] at hl; simp at hl; omega
      | cons a t => rfl
    have h0 : 0 < T.size := by omega
    have hgb := gb_eq T 0 h0
    have hhead : T.data.toList.headD 0 = gb T 0 := by
      cases hh : T.data.toList with
      | nil => rw [hh] at hl; simp at hl; omega
      | cons a t => unfold gb; rw [hh]; rfl
    have hE1 : (T.extract 0 1).data.toList = T.data.toList.take 1 := take_data T 1
    obtain ⟨c, hc⟩ : ∃ c, gb T 0 = c := ⟨_, rfl⟩
    rw [hc] at hgb hhead
    clear hc
    obtain ⟨ix, hix, HIX0⟩ := IndexOps c w
    have HIX := Lib.hid HIX0
    clear HIX0
    have HHD := Lib.hid hhead
    have HE1 := Lib.hid hE1
    have HUD := Lib.hid hUd
    obtain ⟨V, hV⟩ : ∃ V, T.extract 0 1 = V := ⟨_, rfl⟩
    rw [hV] at HE1
    rcases two_cases U with rfl | rfl | rfl | rfl | rfl | rfl | rfl | rfl | ⟨hno, t0, t1, t2, t3, t4, t5, t6, t7⟩
    case inr.inr.inr.inr.inr.inr.inr.inr =>
      have HNO : Hid (¬ T.data.toList.take 2 ∈ twos) := by rw [Hid, ← HUD.out]; exact hno
      clear hno hhead hE1 hUd hl hge
      by_cases hix0 : 0 ≤ ix
      · have HR : Hid (V = O) := HO.out V (by rw [HE1.out]; exact (opL_one HNO.out HHD.out (hix.1 hix0)).symm)
        have hi : decide (0 ≤ ix) = true := by simpa using hix0
        clear hix
        go_enter Tryd.func26, Tryd.ntmps26
        go_wp2_with fail
        refine HK.out.mono ?_
        rintro e w1 ⟨rfl, hK, hR⟩
        have HK1 := Lib.hid hK
        have HR1 := Lib.hid hR
        have c0 := hR.c0
        have c1 := hR.c1
        clear hK hR
        go_wp2_with fail
        go_quiet (fail)
        go_wp2_with fail
        refine (HIX.out _).mono ?_
        rintro e w2 ⟨rfl, h⟩
        obtain rfl := h.symm
        go_wp2_with fail
        go_ret
        exact ⟨by rw [← HR.out]; rfl, HK1.out.trans (Kp.drewN _ _ _), HR1.out.drewN _⟩
      · have HR : Hid ((⟨#[]⟩ : ByteArray) = O) := HO.out ⟨#[]⟩ (by
          have : ones.contains c = false := by rw [Bool.eq_false_iff]; exact fun e => hix0 (hix.2 e)
          rw [opL_no HNO.out HHD.out this])
        have hi : decide (0 ≤ ix) = false := by simpa using hix0
        clear hix
        go_enter Tryd.func26, Tryd.ntmps26
        go_wp2_with fail
        refine HK.out.mono ?_
        rintro e w1 ⟨rfl, hK, hR⟩
        have HK1 := Lib.hid hK
        have HR1 := Lib.hid hR
        have c0 := hR.c0
        have c1 := hR.c1
        clear hK hR
        go_wp2_with fail
        go_quiet (fail)
        go_wp2_with fail
        refine (HIX.out _).mono ?_
        rintro e w2 ⟨rfl, h⟩
        obtain rfl := h.symm
        go_wp2_with fail
        go_ret
        exact ⟨by rw [← HR.out]; rfl, HK1.out.trans (Kp.drewN _ _ _), HR1.out.drewN _⟩
    all_goals
      have HR := Lib.hid (HO.out _ (HUD.out.trans (opL_two (by rw [← HUD.out]; decide)).symm))
      clear hhead hE1 hUd hl hix hV
      go_enter Tryd.func26, Tryd.ntmps26
      go_wp2_with fail
      refine HK.out.mono ?_
      rintro e w1 ⟨rfl, hK, hR⟩
      have HK1 := Lib.hid hK
      have HR1 := Lib.hid hR
      have c0 := hR.c0
      have c1 := hR.c1
      clear hK hR
      go_wp2_with fail
      go_quiet (fail)
      go_wp2_with fail
      go_ret
      exact ⟨by rw [← HR.out]; rfl, HK1.out.trans (Kp.drewN _ _ _), HR1.out.drewN _⟩
  · have h2I : ¬ (2 : Int) ≤ (T.size : Int) := by omega
    by_cases h1 : T.size = 1
    · have h1I : (1 : Int) ≤ (T.size : Int) := by omega
      have hge : (T.toList == []) = false := by rw [str_eq, decide_eq_false (fun e => by rw [e] at hl; simp at hl; omega)]
      have hemp : T.toList.isEmpty = false := by
        rw [Lib.toList_data]
        cases hh : T.data.toList with
        | nil => rw [hh] at hl; simp at hl; omega
        | cons a t => rfl
      have h0 : 0 < T.size := by omega
      have hgb := gb_eq T 0 h0
      have hhead : T.data.toList.headD 0 = gb T 0 := by
        cases hh : T.data.toList with
        | nil => rw [hh] at hl; simp at hl; omega
        | cons a t => unfold gb; rw [hh]; rfl
      have hE1 : (T.extract 0 1).data.toList = T.data.toList.take 1 := take_data T 1
      obtain ⟨c, hc⟩ : ∃ c, gb T 0 = c := ⟨_, rfl⟩
      rw [hc] at hgb hhead
      clear hc
      obtain ⟨ix, hix, HIX0⟩ := IndexOps c w
      have HIX := Lib.hid HIX0
      clear HIX0
      have HHD := Lib.hid hhead
      have HE1 := Lib.hid hE1
      obtain ⟨V, hV⟩ : ∃ V, T.extract 0 1 = V := ⟨_, rfl⟩
      rw [hV] at HE1
      have HNO : Hid (¬ T.data.toList.take 2 ∈ twos) := by
        intro e
        have : (T.data.toList.take 2).length = 2 := by
          simp only [twos, List.mem_cons, List.not_mem_nil, or_false] at e
          rcases e with e | e | e | e | e | e | e | e <;> rw [e] <;> rfl
        rw [List.length_take, hl] at this; omega
      clear hhead hE1 hl hge
      have hsz1 : (1 : Int) = (T.size : Int) := by omega
      clear hsz1 h1
      by_cases hix0 : 0 ≤ ix
      · have HR : Hid (V = O) := HO.out V (by rw [HE1.out]; exact (opL_one HNO.out HHD.out (hix.1 hix0)).symm)
        have hi : decide (0 ≤ ix) = true := by simpa using hix0
        clear hix
        go_enter Tryd.func26, Tryd.ntmps26
        go_wp2_with fail
        refine HK.out.mono ?_
        rintro e w1 ⟨rfl, hK, hR⟩
        have HK1 := Lib.hid hK
        have HR1 := Lib.hid hR
        have c0 := hR.c0
        have c1 := hR.c1
        clear hK hR
        go_wp2_with fail
        go_quiet (fail)
        go_wp2_with fail
        refine (HIX.out _).mono ?_
        rintro e w2 ⟨rfl, h⟩
        obtain rfl := h.symm
        go_wp2_with fail
        go_ret
        exact ⟨by rw [← HR.out]; rfl, HK1.out.trans (Kp.drewN _ _ _), HR1.out.drewN _⟩
      · have HR : Hid ((⟨#[]⟩ : ByteArray) = O) := HO.out ⟨#[]⟩ (by
          have : ones.contains c = false := by rw [Bool.eq_false_iff]; exact fun e => hix0 (hix.2 e)
          rw [opL_no HNO.out HHD.out this])
        have hi : decide (0 ≤ ix) = false := by simpa using hix0
        clear hix
        go_enter Tryd.func26, Tryd.ntmps26
        go_wp2_with fail
        refine HK.out.mono ?_
        rintro e w1 ⟨rfl, hK, hR⟩
        have HK1 := Lib.hid hK
        have HR1 := Lib.hid hR
        have c0 := hR.c0
        have c1 := hR.c1
        clear hK hR
        go_wp2_with fail
        go_quiet (fail)
        go_wp2_with fail
        refine (HIX.out _).mono ?_
        rintro e w2 ⟨rfl, h⟩
        obtain rfl := h.symm
        go_wp2_with fail
        go_ret
        exact ⟨by rw [← HR.out]; rfl, HK1.out.trans (Kp.drewN _ _ _), HR1.out.drewN _⟩
    · have hnil : T.data.toList = [] := List.length_eq_zero_iff.1 (by rw [hl]; omega)
      have hge : (T.toList == []) = true := by rw [str_eq, decide_eq_true hnil]
      have hemp : T.toList.isEmpty = true := by rw [Lib.toList_data, hnil]; rfl
      have hemp2 : T.toList = [] := by rw [Lib.toList_data, hnil]
      have HR : Hid ((⟨#[]⟩ : ByteArray) = O) := HO.out ⟨#[]⟩ (by rw [hnil]; rfl)
      clear hnil hl h1
      go_enter Tryd.func26, Tryd.ntmps26
      go_wp2_with fail
      refine HK.out.mono ?_
      rintro e w1 ⟨rfl, hK, hR⟩
      have HK1 := Lib.hid hK
      have HR1 := Lib.hid hR
      have c0 := hR.c0
      have c1 := hR.c1
      clear hK hR
      go_wp2_with fail
      go_quiet (fail)
      go_wp2_with fail
      go_ret
      exact ⟨by rw [← HR.out]; rfl, HK1.out.trans (Kp.drewN _ _ _), HR1.out.drewN _⟩
end Go.Proofs.YthgddbdkdloobaaDoor
