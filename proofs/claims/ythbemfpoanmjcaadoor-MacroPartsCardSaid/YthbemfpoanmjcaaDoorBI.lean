import Derived.Test.YthbemfpoanmjcaaDoorBH
namespace Go.Proofs.YthbemfpoanmjcaaDoor
open Go.RowKit
set_option linter.unusedVariables false

theorem refN_one {b : UInt8} (t : Bs) (h1 : b ≠ 40) (h2 : b ≠ 123) : refN (36 :: b :: t) = 2 := by
  unfold refN
  have e1 : (36 :: b :: t : Bs)[1]? = some b := rfl
  rw [e1, if_neg (fun e => h1 (Option.some.inj e)), if_neg (fun e => h2 (Option.some.inj e))]
theorem refN_par {o c : UInt8} (t : Bs) (hoc : (o = 40 ∧ c = 41) ∨ (o = 123 ∧ c = 125)) : refN (36 :: o :: t) = scanR o c t 2 1 := by
  unfold refN
  rcases hoc with ⟨rfl, rfl⟩ | ⟨rfl, rfl⟩
  · show scanR 40 41 (40 :: t) 1 0 = _
    rw [scanR, if_pos rfl]; rfl
  · show scanR 123 125 (123 :: t) 1 0 = _
    rw [scanR, if_pos rfl]; rfl
/-- One reference that is well. -/
theorem head_on {rf : Bs → Nat → R} {F : Nat} {b : UInt8} {t out v : Bs} {c c2 : Nat} {G : R} (hb : b ≠ 36) (hF : (36 :: b :: t).length < F) (ho : out.length ≤ 16384) (hn : refN (36 :: b :: t) ≠ 0)
    (hr : rf (((36 :: b :: t).take (refN (36 :: b :: t))).drop 1) c = ((v, 0), c2)) (h : piecesF rf F (36 :: b :: t) out c = G) : piecesF rf F ((36 :: b :: t).drop (refN (36 :: b :: t))) (out ++ v) c2 = G := by
  obtain ⟨f, rfl⟩ : ∃ f, F = f + 1 := ⟨F - 1, by omega⟩
  rw [head_ref rf f hb, if_neg (by omega), if_neg hn, hr] at h
  dsimp only at h
  rw [if_neg (by simp)] at h
  rw [← h]
  obtain ⟨x, d, y, q1, q2, q3, q4, q5⟩ := ref_parts hb hn
  have hl : ((36 :: b :: t).drop (refN (36 :: b :: t))).length < f := by rw [List.length_drop, q3]; simp only [List.length_cons] at hF ⊢; omega
  exact fuel_any rf _ _ (Nat.le_refl _) _ _ _ _ (by omega) hl
theorem two_on {rf : Bs → Nat → R} {F : Nat} {t out : Bs} {c : Nat} {G : R} (hF : (36 :: 36 :: t : Bs).length < F) (h : piecesF rf F (36 :: 36 :: t) out c = G) : piecesF rf F t (out ++ [36]) c = G := by
  obtain ⟨f, rfl⟩ : ∃ f, F = f + 1 := ⟨F - 1, by omega⟩
  rw [head_two] at h
  rw [← h]
  simp only [List.length_cons] at hF
  exact fuel_any rf _ _ (Nat.le_refl _) _ _ _ _ (by omega) (by omega)
theorem ref_mid {s S : ByteArray} {i M kk : Nat} (hM : 3 ≤ M) (hl : i + M ≤ s.size) (hk : kk = i + M - 1) (hS : s.extract (i + 2) kk = S) :
    2 ≤ (((s.data.toList.drop i).take M).drop 1).length ∧ ((((s.data.toList.drop i).take M).drop 1).take ((((s.data.toList.drop i).take M).drop 1).length - 1)).drop 1 = S.data.toList := by
  have e : (((s.data.toList.drop i).take M).drop 1).length = M - 1 := by rw [List.length_drop, List.length_take, List.length_drop, dl]; omega
  rw [e]
  refine ⟨by omega, ?_⟩
  rw [← hS, (ext_dt (by omega) (by omega)).1]
  simp only [List.drop_take, List.drop_drop, List.take_take]
  rw [show min (M - 1 - 1) (M - 1) - 1 = kk - (i + 2) by omega]
theorem app_ba (a b : ByteArray) : (a ++ b).data.toList = a.data.toList ++ b.data.toList := by rw [ByteArray.data_append, Array.toList_append]
set_option maxRecDepth 100000 in
set_option maxHeartbeats 16000000 in
theorem expand_r (eb : Nat) (lv av : Value) (l au : Prs) (rf : Bs → Nat → R) (ne : Nat) (hne : ne ≤ 40) (wv : Value) (op : List ByteArray)
    (HR : ∀ (w : World) (c0 : Nat) (s : ByteArray) (T : Bs), ExR eb w lv av l au (c0 + 1) → c0 + 1 ≤ 10000 → Txt w wv op → 2 ≤ T.length → (T.take (T.length - 1)).drop 1 = s.data.toList →
      Calls Tryd.prog 36 #[.pointer (some ⟨eb, 0, none⟩), .string s, wv, .int .i64 ne] w (XP eb w lv av l au (fun t c => rf T c0 = ((t, 0), c) ∨ 16384 < t.length)))
    (HV : ne < 40 → ∀ (w : World) (c0 : Nat) (x : ByteArray), ExR eb w lv av l au (c0 + 1) → c0 + 1 ≤ 10000 → Txt w wv op → x.size = 1 →
      Calls Tryd.prog 37 #[.pointer (some ⟨eb, 0, none⟩), .string x, wv, .int .i64 ne] w (XP eb w lv av l au (fun t c => rf x.data.toList c0 = ((t, 0), c) ∨ 16384 < t.length)))
    (w : World) (cnt : Nat) (s : ByteArray) (hE : ExR eb w lv av l au cnt) (hc : cnt ≤ 10000) (hT : Txt w wv op) :
    Calls Tryd.prog 24 #[.pointer (some ⟨eb, 0, none⟩), .string s, wv, .int .i64 ne] w (XP eb w lv av l au (fun t c => t.length ≤ 16384 ∧ (if 16384 < s.data.toList.length then (([], 3), cnt) else piecesF rf (s.data.toList.length + 1) s.data.toList [] cnt) = ((t, 0), c))) := by
  by_cases hbig : 16384 < s.size
  · have hbd : decide ((16384 : Int) < (s.size : Int)) = true := decide_eq_true (by omega)
    obtain ⟨P, hP⟩ : ∃ P : Bs → Nat → Prop, (fun t c => t.length ≤ 16384 ∧ (if 16384 < s.data.toList.length then (([], 3), cnt) else piecesF rf (s.data.toList.length + 1) s.data.toList [] cnt) = ((t, 0), c)) = P := ⟨_, rfl⟩
    rw [hP]
    have HEND : Hid (XP eb w lv av l au P (.returned (.tuple #[.string ⟨#[]⟩, .int .i64 3])) w) := XP.bad hE (Only.refl _ _) (by decide)
    clear hE HR HV hT hP
    go_enter Tryd.func24, Tryd.ntmps24
    go_wp2_with fail
    go_ret2
    exact HEND.out
  rw [dl, if_neg (by omega)]
  have hbd : decide ((16384 : Int) < (s.size : Int)) = false := decide_eq_false (by omega)
  have hnd : decide ((40 : Int) < (ne : Int)) = false := decide_eq_false (by omega)
  obtain ⟨G, hG⟩ : ∃ G, piecesF rf (s.size + 1) s.data.toList [] cnt = G := ⟨_, rfl⟩
  rw [hG]
  obtain ⟨P, hP⟩ : ∃ P : Bs → Nat → Prop, (fun t c => t.length ≤ 16384 ∧ G = ((t, 0), c)) = P := ⟨_, rfl⟩
  rw [hP]
  have HP := Lib.hid hP
  have HG := Lib.hid hG
  have HRR := Lib.hid HR
  have HVV := Lib.hid HV
  have HE0 := Lib.hid hE
  have HT0 := Lib.hid hT
  have hs16 : s.size ≤ 16384 := by omega
  clear hE HR HV hG hP hT hbig
  go_enter Tryd.func24, Tryd.ntmps24
  go_wp2_with fail
  go_loopw [10, 11] (fun y x wx => ∃ (i : Nat) (O : ByteArray) (c : Nat), y = .string O ∧ x = .int .i64 i ∧ i ≤ s.size ∧ O.size ≤ 16384 ∧ c ≤ 10000 ∧ Hid (ExR eb wx lv av l au c) ∧ Hid (Oe eb w wx) ∧ Hid (Txt wx wv op) ∧ Hid (piecesF rf (s.size + 1) (s.data.toList.drop i) O.data.toList c = G)) (fun _ x _ => s.size - (intOf x).toNat)
  case atStart => exact ⟨0, _, cnt, rfl, rfl, Nat.zero_le _, Nat.zero_le _, hc, HE0.out, Only.refl _ _, HT0.out, HG.out⟩
  case round =>
    obtain ⟨i, O, c, rfl, rfl, hi, hO, hcc, HE, HO, HT, HI⟩ := hrel
    by_cases hlt : i < s.size
    case neg =>
      have hld : decide ((i : Int) < (s.size : Int)) = false := decide_eq_false (by omega)
      have HEND : Hid (XP eb w lv av l au P (.returned (.tuple #[.string O, .int .i64 0])) wr) := by
        refine XP.good HE.out HO.out hcc (by omega) ?_
        rw [← HP.out]
        have h := HI.out
        rw [List.drop_of_length_le (by rw [dl]; omega), head_nil] at h
        unfold fin3 at h
        rw [if_neg (by rw [dl]; omega)] at h
        exact ⟨by rw [dl]; exact hO, h.symm⟩
      go_wp2_with fail
      go_ret2
      exact HEND.out
    have hld : decide ((i : Int) < (s.size : Int)) = true := decide_eq_true (by omega)
    have hltI : (i : Int) < (s.size : Int) := by omega
    have hi0 : (0 : Int) ≤ (i : Int) := by omega
    have hd := drop_one hlt
    obtain ⟨d, hdd⟩ : ∃ d, s[i]'hlt = d := ⟨_, rfl⟩
    rw [hdd] at hd
    have hI := HI.out
    rw [hd] at hI
    have f36 := byte_eq d 36
    rw [show ((36 : UInt8).toNat : Int) = 36 from rfl] at f36
    obtain ⟨i1, hi1⟩ : ∃ i1, i + 1 = i1 := ⟨_, rfl⟩
    have w1 : IntKind.i64.wrap ((i : Int) + 1) = (i1 : Int) := by rw [wr_in _ (by omega)]; omega
    rw [hi1] at hd hI
    have hlen1 : (s.data.toList.drop i1).length = s.size - i1 := by rw [List.length_drop, dl]
    have HBAD : Hid (∀ er : Int, er ≠ 0 → XP eb w lv av l au P (.returned (.tuple #[.string ⟨#[]⟩, .int .i64 er])) wr) := fun er h => XP.bad HE.out HO.out h
    by_cases hp : d ≠ 36 ∨ i1 = s.size
    · -- a byte that stands for itself
      obtain ⟨hE1, hE2⟩ := ext_dt (t := s) (a := i) (b := i1) (by omega) (by omega)
      obtain ⟨E, hE⟩ : ∃ E, s.extract i i1 = E := ⟨_, rfl⟩
      rw [hE] at hE1 hE2
      have hEd : E.data.toList = [d] := by
        rw [hE1, ← hi1, List.take_succ_eq_append_getElem (by rw [dl]; exact hlt), List.drop_append_of_le_length (by rw [List.length_take, dl]; omega), List.drop_eq_nil_of_le (by rw [List.length_take, dl]; omega), List.nil_append]
        congr 1
      have hEs : E.size = 1 := by omega
      have HN : Hid (piecesF rf (s.size + 1) (s.data.toList.drop i1) (O ++ E).data.toList c = G) := by
        rw [Hid, app_ba, hEd]
        rcases hp with h | h
        · rw [skip1 rf h] at hI; exact hI
        · by_cases h36 : d = 36
          · rw [List.drop_of_length_le (show s.data.toList.length ≤ i1 by rw [dl]; omega)] at hI ⊢
            rw [h36, head_one] at hI
            rw [h36, head_nil]; exact hI
          · rw [skip1 rf h36] at hI; exact hI
      have hk1 : (i : Int) ≤ (i1 : Int) := by omega
      have hk2 : (i1 : Int) ≤ (s.size : Int) := by omega
      have hz : ¬ (9223372036854775807 < O.size + E.size) := by omega
      have hOE : (O ++ E).size = O.size + 1 := by rw [ByteArray.size_append, hEs]
      obtain ⟨O2, hO2⟩ : ∃ O2, O ++ E = O2 := ⟨_, rfl⟩
      rw [hO2] at hOE HN
      have hpick : (∃ q1 q2 : Bool, ((d.toNat : Int) == 36) = q1 ∧ ((i1 : Int) == (s.size : Int)) = q2 ∧ (q1 = false ∨ (q1 = true ∧ q2 = true))) := by
        refine ⟨_, _, rfl, rfl, ?_⟩
        rw [f36]
        rcases hp with h | h
        · exact .inl (by simpa using h)
        · cases hq : (d == 36) with
          | false => exact .inl rfl
          | true => exact .inr ⟨rfl, by rw [beq_iff_eq]; omega⟩
      obtain ⟨qa, qb, hqa, hqb, hq⟩ := hpick
      clear hp hd hI f36 hE1 hE2 hEd hlen1
      by_cases hlo : 16384 < O2.size
      · have hlod : decide ((16384 : Int) < (O2.size : Int)) = true := decide_eq_true (by omega)
        have HEND := Lib.hid (HBAD.out 3 (by decide))
        rcases hq with h | ⟨h, h'⟩
        · subst h
          have g2 : ((d.toNat : Int) != 36) = true := by unfold bne; rw [hqa]; rfl
          go_wp2_with fail
          go_ret2
          exact HEND.out
        · subst h
          subst h'
          have g2 : ((d.toNat : Int) != 36) = false := by unfold bne; rw [hqa]; rfl
          go_wp2_with fail
          go_ret2
          exact HEND.out
      · have hlod : decide ((16384 : Int) < (O2.size : Int)) = false := decide_eq_false (by omega)
        rcases hq with h | ⟨h, h'⟩
        · subst h
          have g2 : ((d.toNat : Int) != 36) = true := by unfold bne; rw [hqa]; rfl
          go_wp2_with fail
          go_roundw
          case measure => simp [intOf]; omega
          case rel => exact ⟨i1, O2, c, rfl, rfl, by omega, by omega, hcc, HE.out, HO.out, HT.out, HN.out⟩
        · subst h
          subst h'
          have g2 : ((d.toNat : Int) != 36) = false := by unfold bne; rw [hqa]; rfl
          go_wp2_with fail
          go_roundw
          case measure => simp [intOf]; omega
          case rel => exact ⟨i1, O2, c, rfl, rfl, by omega, by omega, hcc, HE.out, HO.out, HT.out, HN.out⟩
    · -- a reference, or a doubled sign
      have h36 : d = 36 := by
        rcases Classical.em (d = 36) with h | h
        · exact h
        · exact absurd (.inl h) hp
      have hi1l : i1 < s.size := by
        rcases Nat.lt_or_ge i1 s.size with h | h
        · exact h
        · exact absurd (.inr (by omega)) hp
      have g1 : ((d.toNat : Int) == 36) = true := by rw [f36, h36]; rfl
      have g2 : ((d.toNat : Int) != 36) = false := by unfold bne; rw [g1]; rfl
      have g3 : ((i1 : Int) == (s.size : Int)) = false := by rw [beq_eq_false_iff_ne]; omega
      have hd2 := drop_one hi1l
      obtain ⟨d2, hdd2⟩ : ∃ d2, s[i1]'hi1l = d2 := ⟨_, rfl⟩
      rw [hdd2] at hd2
      obtain ⟨j, hj⟩ : ∃ j, i1 + 1 = j := ⟨_, rfl⟩
      rw [hj] at hd2
      rw [hd2, h36] at hI
      have hdi : s.data.toList.drop i = 36 :: d2 :: s.data.toList.drop j := by rw [hd, hd2, h36]
      have w2 : IntKind.i64.wrap ((i1 : Int) + 1) = (j : Int) := by rw [wr_in _ (by omega)]; omega
      have hi1I : (i1 : Int) < (s.size : Int) := by omega
      have hi10 : (0 : Int) ≤ (i1 : Int) := by omega
      have hj1 : (i1 : Int) ≤ (j : Int) := by omega
      have hj2 : (j : Int) ≤ (s.size : Int) := by omega
      have p36 := byte_eq d2 36
      have p40 := byte_eq d2 40
      have p123 := byte_eq d2 123
      rw [show ((36 : UInt8).toNat : Int) = 36 from rfl] at p36
      rw [show ((40 : UInt8).toNat : Int) = 40 from rfl] at p40
      rw [show ((123 : UInt8).toNat : Int) = 123 from rfl] at p123
      have hlF : (36 :: d2 :: s.data.toList.drop j : Bs).length < s.size + 1 := by rw [← hdi, List.length_drop, dl]; omega
      have HI2 := Lib.hid hI
      clear hp hI hd hd2 f36 hlen1 h36 HI
      by_cases e36 : d2 = 36
      · have HN : Hid (piecesF rf (s.size + 1) (s.data.toList.drop j) (O ++ (⟨#[36]⟩ : ByteArray)).data.toList c = G) := by
          rw [Hid, app_ba]
          have h := HI2.out
          rw [e36] at h hlF
          exact two_on hlF h
        have q36 : ((d2.toNat : Int) == 36) = true := by rw [p36, e36]; rfl
        have hz : ¬ (9223372036854775807 < O.size + 1) := by omega
        have hOE : (O ++ (⟨#[36]⟩ : ByteArray)).size = O.size + 1 := by rw [ByteArray.size_append]; rfl
        obtain ⟨O2, hO2⟩ : ∃ O2, O ++ (⟨#[36]⟩ : ByteArray) = O2 := ⟨_, rfl⟩
        rw [hO2] at hOE HN
        clear p36 p40 p123 e36 hdi hlF
        by_cases hlo : 16384 < O2.size
        · have hlod : decide ((16384 : Int) < (O2.size : Int)) = true := decide_eq_true (by omega)
          have HEND := Lib.hid (HBAD.out 3 (by decide))
          go_wp2_with fail
          go_ret2
          exact HEND.out
        · have hlod : decide ((16384 : Int) < (O2.size : Int)) = false := decide_eq_false (by omega)
          go_wp2_with fail
          go_roundw
          case measure => simp [intOf]; omega
          case rel => exact ⟨j, O2, c, rfl, rfl, by omega, by omega, hcc, HE.out, HO.out, HT.out, HN.out⟩
      have q36 : ((d2.toNat : Int) == 36) = false := by rw [p36]; simpa using e36
      obtain ⟨cc0, cc1, cc2, cf2⟩ := HE.out.cells
      have hcw : IntKind.i64.wrap ((c : Int) + 1) = (c : Int) + 1 := wr_in _ (by omega)
      have HEc : Hid (ExR eb (wr.setCell ⟨eb, 2, none⟩ (.int .i64 ((c : Int) + 1))) lv av l au (c + 1)) := HE.out.count1
      have HOc : Hid (Oe eb w (wr.setCell ⟨eb, 2, none⟩ (.int .i64 ((c : Int) + 1)))) := HO.out.trans (Oe.put _ _ _ _)
      have HTc : Hid (Txt (wr.setCell ⟨eb, 2, none⟩ (.int .i64 ((c : Int) + 1))) wv op) := HT.out.only HE.out (Oe.put _ _ _ _)
      by_cases hcn : 10000 < c + 1
      · have hcd : decide ((10000 : Int) < (c : Int) + 1) = true := decide_eq_true (by omega)
        have HEND : Hid (XP eb w lv av l au P (.returned (.tuple #[.string ⟨#[]⟩, .int .i64 3])) (wr.setCell ⟨eb, 2, none⟩ (.int .i64 ((c : Int) + 1)))) := XP.bad HEc.out HOc.out (by decide)
        obtain ⟨r40, hr40⟩ : ∃ q, ((d2.toNat : Int) == 40) = q := ⟨_, rfl⟩
        obtain ⟨r123, hr123⟩ : ∃ q, ((d2.toNat : Int) == 123) = q := ⟨_, rfl⟩
        clear p36 p40 p123 e36 hdi hlF
        cases r40 <;> cases r123 <;>
        · go_wp2_with fail
          go_ret2
          exact HEND.out
      have hcd : decide ((10000 : Int) < (c : Int) + 1) = false := decide_eq_false (by omega)
      by_cases hpar : d2 = 40 ∨ d2 = 123
      · obtain ⟨M, hM⟩ : ∃ M, refN (36 :: d2 :: s.data.toList.drop j) = M := ⟨_, rfl⟩
        obtain ⟨cl, hcl, hocl⟩ : ∃ cl : UInt8, ((d2 = 40 ∧ cl = 41) ∨ (d2 = 123 ∧ cl = 125)) ∧ d2 ≠ cl := by
          rcases hpar with h | h
          · exact ⟨41, .inl ⟨h, rfl⟩, by rw [h]; decide⟩
          · exact ⟨125, .inr ⟨h, rfl⟩, by rw [h]; decide⟩
        have hMs := refN_par (s.data.toList.drop j) hcl
        rw [hM] at hMs
        have hjP : j - i = 2 := by omega
        have hclo := fun w => closing_any s d2 cl i j M (by omega) (by omega) (by omega) hocl (by rw [hjP]; exact hMs.symm) w
        have hsb := scan_bd d2 cl (s.data.toList.drop j) 2 1
        rw [← hMs, List.length_drop, dl] at hsb
        by_cases hM0 : M = 0
        · have HEND : Hid (XP eb w lv av l au P (.returned (.tuple #[.string ⟨#[]⟩, .int .i64 2])) (wr.setCell ⟨eb, 2, none⟩ (.int .i64 ((c : Int) + 1)))) := XP.bad HEc.out HOc.out (by decide)
          rw [hM0, show clo i 0 = -1 from rfl] at hclo
          rcases hcl with ⟨h1, h2⟩ | ⟨h1, h2⟩
          · have q40 : ((d2.toNat : Int) == 40) = true := by rw [p40, h1]; rfl
            have q123 : ((d2.toNat : Int) == 123) = false := by rw [p123, h1]; rfl
            have hcl2 : ∀ w, Calls Tryd.prog 35 #[.string s, .int .i64 j, .int .u8 d2.toNat, .int .u8 41] w fun e w' => e = .returned (.int .i64 (-1)) ∧ w' = w := fun w => by rw [h2] at hclo; exact hclo w
            have HCL := Lib.hid hcl2
            clear p36 p40 p123 e36 hdi hlF hMs hclo hsb hcl2 h1 hpar hM
            go_wp2_with (go_at_call 35; refine (HCL.out _).mono ?_; rintro e w5 ⟨rfl, h5⟩; obtain rfl := h5; simp only [])
            go_ret2
            exact HEND.out
          · have q40 : ((d2.toNat : Int) == 40) = false := by rw [p40, h1]; rfl
            have q123 : ((d2.toNat : Int) == 123) = true := by rw [p123, h1]; rfl
            have hcl2 : ∀ w, Calls Tryd.prog 35 #[.string s, .int .i64 j, .int .u8 d2.toNat, .int .u8 125] w fun e w' => e = .returned (.int .i64 (-1)) ∧ w' = w := fun w => by rw [h2] at hclo; exact hclo w
            have HCL := Lib.hid hcl2
            clear p36 p40 p123 e36 hdi hlF hMs hclo hsb hcl2 h1 hpar hM
            go_wp2_with (go_at_call 35; refine (HCL.out _).mono ?_; rintro e w5 ⟨rfl, h5⟩; obtain rfl := h5; simp only [])
            go_ret2
            exact HEND.out
        have hM3 : 3 ≤ M := hsb.2 hM0
        have hMl := hsb.1
        obtain ⟨kk, hkk⟩ : ∃ kk, i + M - 1 = kk := ⟨_, rfl⟩
        have hclk : clo i M = (kk : Int) := by unfold clo; rw [if_neg hM0]; omega
        rw [hclk] at hclo
        obtain ⟨nx, hnx⟩ : ∃ nx, i + M = nx := ⟨_, rfl⟩
        have hw3 : IntKind.i64.wrap ((kk : Int) + 1) = (nx : Int) := by rw [wr_in _ (by omega)]; omega
        have hij : i + 2 = j := by omega
        obtain ⟨S2, hS2⟩ : ∃ S2, s.extract j kk = S2 := ⟨_, rfl⟩
        obtain ⟨m1, m2⟩ := ref_mid (s := s) (S := S2) (i := i) (M := M) (kk := kk) hM3 (by omega) hkk.symm (by rw [hij]; exact hS2)
        obtain ⟨T, hTT⟩ : ∃ T, ((s.data.toList.drop i).take M).drop 1 = T := ⟨_, rfl⟩
        rw [hTT] at m1 m2
        have HCALL := Lib.hid (HRR.out _ c S2 T HEc.out (by omega) HTc.out m1 m2)
        have HCONT : Hid (∀ v c2, rf T c = ((v, 0), c2) → piecesF rf (s.size + 1) (s.data.toList.drop nx) (O.data.toList ++ v) c2 = G) := fun v c2 h => by
          have h9 := head_on (rf := rf) e36 hlF (by rw [dl]; exact hO) (by rw [hM]; exact hM0) (v := v) (c2 := c2) (by rw [hM, ← hdi, hTT]; exact h) HI2.out
          rw [hM, ← hdi, List.drop_drop, hnx] at h9
          exact h9
        have k1 : (0 : Int) ≤ (j : Int) := by omega
        have k2 : (j : Int) ≤ (kk : Int) := by omega
        have k3 : (kk : Int) ≤ (s.size : Int) := by omega
        have k4 : ¬ ((kk : Int) < 0) := by omega
        have k5 : decide ((kk : Int) < 0) = false := decide_eq_false (by omega)
        have hnx1 : i < nx := by omega
        have hnx2 : nx ≤ s.size := by omega
        rcases hcl with ⟨h1, h2⟩ | ⟨h1, h2⟩
        · have q40 : ((d2.toNat : Int) == 40) = true := by rw [p40, h1]; rfl
          have q123 : ((d2.toNat : Int) == 123) = false := by rw [p123, h1]; rfl
          have hcl2 : ∀ w, Calls Tryd.prog 35 #[.string s, .int .i64 j, .int .u8 d2.toNat, .int .u8 41] w fun e w' => e = .returned (.int .i64 kk) ∧ w' = w := fun w => by rw [h2] at hclo; exact hclo w
          have HCL := Lib.hid hcl2
          clear p36 p40 p123 e36 hdi hlF hMs hclo hsb hcl2 h1 h2 hpar hM hM0 hM3 hMl hclk hij hkk hnx m1 m2 hjP hTT
          go_wp2_with (first
            | (go_at_call 35; refine (HCL.out _).mono ?_; rintro e w5 ⟨rfl, h5⟩; obtain rfl := h5; simp only [])
            | (go_at_call 36; refine HCALL.out.mono ?_))
          rintro e w6 ⟨v, er, c2, rfl, q1, q2, q3⟩
          by_cases her : er = 0
          case neg =>
            have g1 : (er == 0) = false := by rw [beq_eq_false_iff_ne]; exact her
            have g2 : (er != 0) = true := by rw [bne_iff_ne]; exact her
            have HEND : Hid (XP eb w lv av l au P (.returned (.tuple #[.string ⟨#[]⟩, .int .i64 er])) w6) := XP.bad q1 (HOc.out.trans q2) her
            clear q1 q2 q3 her
            simp only []
            go_wp2_with fail
            go_ret2
            exact HEND.out
          subst her
          obtain ⟨hc2, hvs, hPr⟩ := q3 rfl
          have HE6 := Lib.hid q1
          have HO6 := Lib.hid (HOc.out.trans q2)
          have HT6 := Lib.hid (HTc.out.only HEc.out q2)
          have HPR := Lib.hid hPr
          clear q1 q2 q3 hPr
          have hz : ¬ (9223372036854775807 < O.size + v.size) := by omega
          have hOE : (O ++ v).size = O.size + v.size := ByteArray.size_append
          obtain ⟨O2, hO2⟩ : ∃ O2, O ++ v = O2 := ⟨_, rfl⟩
          rw [hO2] at hOE
          have HO2 := Lib.hid hO2
          by_cases hlo : 16384 < O2.size
          · have hlod : decide ((16384 : Int) < (O2.size : Int)) = true := decide_eq_true (by omega)
            have HEND : Hid (XP eb w lv av l au P (.returned (.tuple #[.string ⟨#[]⟩, .int .i64 3])) w6) := XP.bad HE6.out HO6.out (by decide)
            simp only []
            go_wp2_with fail
            go_ret2
            exact HEND.out
          · have hlod : decide ((16384 : Int) < (O2.size : Int)) = false := decide_eq_false (by omega)
            have HN : Hid (piecesF rf (s.size + 1) (s.data.toList.drop nx) O2.data.toList c2 = G) := by
              rw [Hid, ← HO2.out, app_ba]
              rcases HPR.out with h | h
              · exact HCONT.out _ _ h
              · rw [dl] at h; omega
            simp only []
            go_wp2_with fail
            go_roundw
            case measure => simp [intOf]; omega
            case rel => exact ⟨nx, O2, c2, rfl, rfl, by omega, by omega, hc2, HE6.out, HO6.out, HT6.out, HN.out⟩
        · have q40 : ((d2.toNat : Int) == 40) = false := by rw [p40, h1]; rfl
          have q123 : ((d2.toNat : Int) == 123) = true := by rw [p123, h1]; rfl
          have hcl2 : ∀ w, Calls Tryd.prog 35 #[.string s, .int .i64 j, .int .u8 d2.toNat, .int .u8 125] w fun e w' => e = .returned (.int .i64 kk) ∧ w' = w := fun w => by rw [h2] at hclo; exact hclo w
          have HCL := Lib.hid hcl2
          clear p36 p40 p123 e36 hdi hlF hMs hclo hsb hcl2 h1 h2 hpar hM hM0 hM3 hMl hclk hij hkk hnx m1 m2 hjP hTT
          go_wp2_with (first
            | (go_at_call 35; refine (HCL.out _).mono ?_; rintro e w5 ⟨rfl, h5⟩; obtain rfl := h5; simp only [])
            | (go_at_call 36; refine HCALL.out.mono ?_))
          rintro e w6 ⟨v, er, c2, rfl, q1, q2, q3⟩
          by_cases her : er = 0
          case neg =>
            have g1 : (er == 0) = false := by rw [beq_eq_false_iff_ne]; exact her
            have g2 : (er != 0) = true := by rw [bne_iff_ne]; exact her
            have HEND : Hid (XP eb w lv av l au P (.returned (.tuple #[.string ⟨#[]⟩, .int .i64 er])) w6) := XP.bad q1 (HOc.out.trans q2) her
            clear q1 q2 q3 her
            simp only []
            go_wp2_with fail
            go_ret2
            exact HEND.out
          subst her
          obtain ⟨hc2, hvs, hPr⟩ := q3 rfl
          have HE6 := Lib.hid q1
          have HO6 := Lib.hid (HOc.out.trans q2)
          have HT6 := Lib.hid (HTc.out.only HEc.out q2)
          have HPR := Lib.hid hPr
          clear q1 q2 q3 hPr
          have hz : ¬ (9223372036854775807 < O.size + v.size) := by omega
          have hOE : (O ++ v).size = O.size + v.size := ByteArray.size_append
          obtain ⟨O2, hO2⟩ : ∃ O2, O ++ v = O2 := ⟨_, rfl⟩
          rw [hO2] at hOE
          have HO2 := Lib.hid hO2
          by_cases hlo : 16384 < O2.size
          · have hlod : decide ((16384 : Int) < (O2.size : Int)) = true := decide_eq_true (by omega)
            have HEND : Hid (XP eb w lv av l au P (.returned (.tuple #[.string ⟨#[]⟩, .int .i64 3])) w6) := XP.bad HE6.out HO6.out (by decide)
            simp only []
            go_wp2_with fail
            go_ret2
            exact HEND.out
          · have hlod : decide ((16384 : Int) < (O2.size : Int)) = false := decide_eq_false (by omega)
            have HN : Hid (piecesF rf (s.size + 1) (s.data.toList.drop nx) O2.data.toList c2 = G) := by
              rw [Hid, ← HO2.out, app_ba]
              rcases HPR.out with h | h
              · exact HCONT.out _ _ h
              · rw [dl] at h; omega
            simp only []
            go_wp2_with fail
            go_roundw
            case measure => simp [intOf]; omega
            case rel => exact ⟨nx, O2, c2, rfl, rfl, by omega, by omega, hc2, HE6.out, HO6.out, HT6.out, HN.out⟩
      · have n40 : d2 ≠ 40 := fun h => hpar (.inl h)
        have n123 : d2 ≠ 123 := fun h => hpar (.inr h)
        have q40 : ((d2.toNat : Int) == 40) = false := by rw [p40]; simpa using n40
        have q123 : ((d2.toNat : Int) == 123) = false := by rw [p123]; simpa using n123
        have hM := refN_one (b := d2) (s.data.toList.drop j) n40 n123
        by_cases hn40 : ne < 40
        case neg =>
          have hnw : IntKind.i64.wrap ((ne : Int) + 1) = (ne : Int) + 1 := wr_in _ (by omega)
          have hnd2 : decide ((40 : Int) < (ne : Int) + 1) = true := decide_eq_true (by omega)
          have HEND : Hid (XP eb w lv av l au P (.returned (.tuple #[.string ⟨#[]⟩, .int .i64 3])) (wr.setCell ⟨eb, 2, none⟩ (.int .i64 ((c : Int) + 1)))) := XP.bad HEc.out HOc.out (by decide)
          clear p36 p40 p123 e36 hdi hlF hM hpar n40 n123
          go_wp2_with fail
          go_ret2
          exact HEND.out
        case pos =>
          have hnw : IntKind.i64.wrap ((ne : Int) + 1) = (ne : Int) + 1 := wr_in _ (by omega)
          have hnd2 : decide ((40 : Int) < (ne : Int) + 1) = false := decide_eq_false (by omega)
          obtain ⟨X, hX⟩ : ∃ X, s.extract i1 j = X := ⟨_, rfl⟩
          have hij : i + 2 = j := by omega
          have hX1 : X.data.toList = [d2] := by
            rw [← hX, (ext_dt (by omega) (by omega)).1, List.drop_take, show s.data.toList.drop i1 = (s.data.toList.drop i).drop 1 by rw [List.drop_drop, hi1], hdi, show j - i1 = 1 by omega]; rfl
          have hXs : X.size = 1 := by rw [← dl, hX1]; rfl
          have HCALL := Lib.hid (HVV.out hn40 _ c X HEc.out (by omega) HTc.out hXs)
          have HCONT : Hid (∀ v c2, rf X.data.toList c = ((v, 0), c2) → piecesF rf (s.size + 1) (s.data.toList.drop j) (O.data.toList ++ v) c2 = G) := fun v c2 h => by
            have h9 := head_on (rf := rf) e36 hlF (by rw [dl]; exact hO) (by rw [hM]; decide) (v := v) (c2 := c2) (by rw [hM]; rw [hX1] at h; exact h) HI2.out
            rw [hM] at h9
            exact h9
          clear p36 p40 p123 e36 hdi hlF hM hpar n40 n123 hX1 hXs hij
          go_wp2_with (go_at_call 37; refine HCALL.out.mono ?_)
          rintro e w6 ⟨v, er, c2, rfl, q1, q2, q3⟩
          by_cases her : er = 0
          case neg =>
            have g1 : (er == 0) = false := by rw [beq_eq_false_iff_ne]; exact her
            have g2 : (er != 0) = true := by rw [bne_iff_ne]; exact her
            have HEND : Hid (XP eb w lv av l au P (.returned (.tuple #[.string ⟨#[]⟩, .int .i64 er])) w6) := XP.bad q1 (HOc.out.trans q2) her
            clear q1 q2 q3 her
            simp only []
            go_wp2_with fail
            go_ret2
            exact HEND.out
          subst her
          obtain ⟨hc2, hvs, hPr⟩ := q3 rfl
          have HE6 := Lib.hid q1
          have HO6 := Lib.hid (HOc.out.trans q2)
          have HT6 := Lib.hid (HTc.out.only HEc.out q2)
          have HPR := Lib.hid hPr
          clear q1 q2 q3 hPr
          have hz : ¬ (9223372036854775807 < O.size + v.size) := by omega
          have hOE : (O ++ v).size = O.size + v.size := ByteArray.size_append
          obtain ⟨O2, hO2⟩ : ∃ O2, O ++ v = O2 := ⟨_, rfl⟩
          rw [hO2] at hOE
          have HO2 := Lib.hid hO2
          by_cases hlo : 16384 < O2.size
          · have hlod : decide ((16384 : Int) < (O2.size : Int)) = true := decide_eq_true (by omega)
            have HEND : Hid (XP eb w lv av l au P (.returned (.tuple #[.string ⟨#[]⟩, .int .i64 3])) w6) := XP.bad HE6.out HO6.out (by decide)
            simp only []
            go_wp2_with fail
            go_ret2
            exact HEND.out
          · have hlod : decide ((16384 : Int) < (O2.size : Int)) = false := decide_eq_false (by omega)
            have HN : Hid (piecesF rf (s.size + 1) (s.data.toList.drop j) O2.data.toList c2 = G) := by
              rw [Hid, ← HO2.out, app_ba]
              rcases HPR.out with h | h
              · exact HCONT.out _ _ h
              · rw [dl] at h; omega
            simp only []
            go_wp2_with fail
            go_roundw
            case measure => simp [intOf]; omega
            case rel => exact ⟨j, O2, c2, rfl, rfl, by omega, by omega, hc2, HE6.out, HO6.out, HT6.out, HN.out⟩
end Go.Proofs.YthbemfpoanmjcaaDoor
