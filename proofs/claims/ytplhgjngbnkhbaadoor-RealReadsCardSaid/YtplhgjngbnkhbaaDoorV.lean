import Derived.Test.YtplhgjngbnkhbaaDoorU
import Derived.Laws.BitsAllLaws
namespace Go.Proofs.YtplhgjngbnkhbaaDoor
open Go.RowKit Ieee
set_option linter.unusedVariables false

theorem opp_word (s : Bool) {r : Nat} (h : r < 9223372036854775808) : opp (D.word s r) = D.word (!s) r := by
  unfold opp; rw [sg_word s h, rg_word s h]
theorem sub_turn {x y : Nat} (hx : nanB x = false) (hy : nanB y = false) :
    (D.sub x y = none ∧ D.sub y x = none) ∨ ∃ a b, D.sub x y = some a ∧ D.sub y x = some b ∧ rg b = rg a ∧ (b = opp a ∨ rg a = 0) := by
  unfold Format.sub
  rcases fin_or_inf hx with ⟨m, i, hm⟩ | hi
  · rcases fin_or_inf hy with ⟨n, j, hn⟩ | hj
    · right
      rw [hm.read, hn.read]
      simp only [Datum.opposite, Datum.sum, Option.map, Format.write]
      rw [Int.min_comm (-1074 + (j : Int))]
      obtain ⟨A, hA⟩ : ∃ A, signed (sg x) m ((-1074 + (i : Int) - min (-1074 + (i : Int)) (-1074 + (j : Int))).toNat) = A := ⟨_, rfl⟩
      obtain ⟨A', hA'⟩ : ∃ A', signed (!sg x) m ((-1074 + (i : Int) - min (-1074 + (i : Int)) (-1074 + (j : Int))).toNat) = A' := ⟨_, rfl⟩
      obtain ⟨B, hB⟩ : ∃ B, signed (sg y) n ((-1074 + (j : Int) - min (-1074 + (i : Int)) (-1074 + (j : Int))).toNat) = B := ⟨_, rfl⟩
      obtain ⟨B', hB'⟩ : ∃ B', signed (!sg y) n ((-1074 + (j : Int) - min (-1074 + (i : Int)) (-1074 + (j : Int))).toNat) = B' := ⟨_, rfl⟩
      have e1 : A' = -A := by rw [← hA, ← hA', signed_eq, signed_eq]; cases sg x <;> simp
      have e2 : B' = -B := by rw [← hB, ← hB', signed_eq, signed_eq]; cases sg y <;> simp
      rw [hA, hB', hB, hA', e1, e2]
      have e3 : (B + -A).natAbs = (A + -B).natAbs := by omega
      rw [e3]
      obtain ⟨P, hP⟩ : ∃ P, min (-1074 + (i : Int)) (-1074 + (j : Int)) = P := ⟨_, rfl⟩
      rw [hP]
      refine ⟨_, _, rfl, rfl, ?_⟩
      obtain ⟨r, hr, _, hw⟩ := nearest_word true (A + -B).natAbs P
      have hr2 : r < 9223372036854775808 := by omega
      rw [hw, hw, rg_word _ hr2, rg_word _ hr2, opp_word _ hr2]
      refine ⟨rfl, ?_⟩
      by_cases h0 : A + -B = 0
      · right
        have h1 : (A + -B).natAbs = 0 := by omega
        have h2 := hw false
        rw [h1, nearest_nought] at h2
        rw [word_val, word_val] at h2
        simpa using h2.symm
      · left
        rw [if_neg h0, if_neg (by omega : ¬ B + -A = 0)]
        congr 1
        rcases Int.lt_or_gt_of_ne h0 with h | h
        · rw [decide_eq_true h, decide_eq_false (by omega : ¬ B + -A < 0)]; rfl
        · rw [decide_eq_false (by omega : ¬ A + -B < 0), decide_eq_true (by omega : B + -A < 0)]; rfl
    · right
      rw [hm.read, read_inf hj]
      simp only [Datum.opposite, Datum.sum, Option.map, Format.write, D_inf]
      refine ⟨_, _, rfl, rfl, ?_, .inl ?_⟩
      · rw [rg_word _ (by omega), rg_word _ (by omega)]
      · rw [opp_word _ (by omega)]; simp
  · rcases fin_or_inf hy with ⟨n, j, hn⟩ | hj
    · right
      rw [hn.read, read_inf hi]
      simp only [Datum.opposite, Datum.sum, Option.map, Format.write, D_inf]
      refine ⟨_, _, rfl, rfl, ?_, .inl ?_⟩
      · rw [rg_word _ (by omega), rg_word _ (by omega)]
      · rw [opp_word _ (by omega)]
    · rw [read_inf hi, read_inf hj]
      simp only [Datum.opposite, Datum.sum]
      by_cases h : sg x = !sg y
      · right
        rw [if_pos h, if_pos (by rw [h]; simp)]
        simp only [Option.map, Format.write, D_inf]
        refine ⟨_, _, rfl, rfl, ?_, .inl ?_⟩
        · rw [rg_word _ (by omega), rg_word _ (by omega)]
        · rw [opp_word _ (by omega), h]; simp
      · left
        rw [if_neg h, if_neg (by intro e; apply h; rw [e]; simp)]
        exact ⟨rfl, rfl⟩

theorem opp_opp (x : Nat) (hx : x < 18446744073709551616) : opp (opp x) = x := by
  unfold opp
  rw [sg_word _ (rg_lt x), rg_word _ (rg_lt x), Bool.not_not]
  exact word_self hx
theorem opp_inf (x : Nat) : infB (opp x) = infB x := by unfold infB; rw [opp_rg]
theorem opp_tr (x : Nat) : tr (opp x) = tr x := by unfold tr; rw [opp_rg]
theorem opp_small (x : Nat) : small (opp x) = small x := by unfold small; rw [opp_rg]
theorem opp_whole (x : Nat) : whole (opp x) = whole x := by unfold whole; rw [opp_rg, opp_tr]
theorem dec_head (n : Nat) : ∃ c t, Lib.decDigits n = c :: t ∧ c ≠ 45 := by
  induction n using Nat.strongRecOn with
  | _ n ih =>
    by_cases h : n < 10
    · refine ⟨_, [], dec_small h, ?_⟩
      have : ∀ k : Fin 10, UInt8.ofNat (48 + k.val) ≠ 45 := by decide
      exact this ⟨n, h⟩
    · obtain ⟨c, t, e, hc⟩ := ih (n / 10) (by omega)
      exact ⟨c, t ++ [UInt8.ofNat (48 + n % 10)], by rw [dec_big h, e]; rfl, hc⟩
/-- A text and that of the opposite. -/
theorem text_turn {x : Nat} (hx : x < 18446744073709551616) (hn : nanB x = false) :
    (textL x).length = 18 ∨ (∃ d, textL x = 45 :: d ∧ textL (opp x) = d ∧ d.length < 17) ∨ (∃ c d, textL (opp x) = 45 :: c :: d ∧ textL x = c :: d ∧ c ≠ 45 ∧ (c :: d).length < 17) := by
  have hn2 : nanB (opp x) = false := by rw [opp_nan]; exact hn
  cases hi : infB x with
  | true =>
    cases hs : sg x with
    | true =>
      right; left
      refine ⟨[105, 110, 102], ?_, ?_, by decide⟩
      · rw [textL, hn, hi, hs]; rfl
      · rw [textL, hn2, opp_inf, hi, opp_sg, hs]; rfl
    | false =>
      right; right
      refine ⟨105, [110, 102], ?_, ?_, by decide, by decide⟩
      · rw [textL, hn2, opp_inf, hi, opp_sg, hs]; rfl
      · rw [textL, hn, hi, hs]; rfl
  | false =>
    have hi2 : infB (opp x) = false := by rw [opp_inf]; exact hi
    by_cases hz : rg x = 0
    · have t0 : textL 0 = [48] := by
        have h1 : small 0 = true := by unfold small; rw [decide_eq_true_iff]; exact Nat.mul_pos (by omega) EE_pos
        have h2 : tr 0 = 0 := by unfold tr; rw [show un (rg 0) = 0 from rfl, Nat.zero_div]
        have h3 : whole 0 = true := by unfold whole; rw [decide_eq_true_iff, h2, Nat.zero_mul]; exact (rfl : un 0 = 0)
        rw [textL, show nanB 0 = false from rfl, show infB 0 = false from rfl, h1, h3, h2]
        rw [if_neg (by simp), if_neg (by simp), if_neg (by decide), Bool.and_true, if_pos rfl, show (if sg 0 = true then -((0 : Nat) : Int) else ((0 : Nat) : Int)) = ((0 : Nat) : Int) by simp, itoa_nat, dec_small (by omega)]
        rfl
      have t1 : textL 9223372036854775808 = [45, 48] := by
        rw [textL, show nanB 9223372036854775808 = false by decide +kernel, show infB 9223372036854775808 = false by decide +kernel]; rfl
      have hw := word_self hx
      rw [hz, word_val, Nat.add_zero] at hw
      cases hs : sg x with
      | true =>
        rw [hs] at hw
        simp only [if_true] at hw
        subst hw
        have : opp 9223372036854775808 = 0 := by decide +kernel
        right; left
        exact ⟨[48], t1, by rw [this]; exact t0, by decide⟩
      | false =>
        rw [hs] at hw
        simp only [Bool.false_eq_true, if_false] at hw
        subst hw
        have : opp 0 = 9223372036854775808 := by decide +kernel
        right; right
        exact ⟨48, [], by rw [this]; exact t1, t0, by decide, by decide⟩
    · have z1 : x ≠ 9223372036854775808 := fun e => hz (by rw [e]; decide +kernel)
      have z2 : opp x ≠ 9223372036854775808 := fun e => hz (by rw [← opp_rg, e]; decide +kernel)
      cases hsw : (small x && whole x) with
      | false =>
        left
        rw [textL, hn, hi, if_neg z1, hsw]
        simp [hx_len]
      | true =>
        have h1 : small x = true := (Bool.and_eq_true _ _ ▸ hsw).1
        have h2 : whole x = true := (Bool.and_eq_true _ _ ▸ hsw).2
        have ht : 0 < tr x := by
          rcases Nat.eq_zero_or_pos (tr x) with h | h
          · exfalso
            unfold whole at h2
            rw [decide_eq_true_iff, h, Nat.zero_mul] at h2
            exact hz (un_zero h2)
          · exact h
        have hlt := small_tr h1
        have hdl := dec_len 14 (tr x) (by omega)
        obtain ⟨c, t, e, hc⟩ := dec_head (tr x)
        have tx : textL x = Lib.itoa (if sg x then -(tr x : Int) else (tr x : Int)) := by rw [textL, hn, hi, if_neg z1, hsw]; rfl
        have tn : textL (opp x) = Lib.itoa (if !sg x then -(tr x : Int) else (tr x : Int)) := by rw [textL, hn2, hi2, if_neg z2, opp_small, opp_whole, hsw, opp_tr, opp_sg]; rfl
        cases hs : sg x with
        | true =>
          right; left
          rw [hs] at tx tn
          simp only [if_true, Bool.not_true, Bool.false_eq_true, if_false] at tx tn
          rw [itoa_neg ht] at tx
          rw [itoa_nat] at tn
          exact ⟨_, tx, tn, by omega⟩
        | false =>
          right; right
          rw [hs] at tx tn
          simp only [if_true, Bool.not_false, Bool.false_eq_true, if_false] at tx tn
          rw [itoa_neg ht, e] at tn
          rw [itoa_nat, e] at tx
          exact ⟨c, t, tn, tx, hc, by rw [← e]; omega⟩

set_option maxRecDepth 100000 in
set_option maxHeartbeats 2000000 in
theorem Begins_minus (p : ByteArray) (w : World) (v : Bool) (hv : (∃ t, p.data.toList = 45 :: t) ↔ v = true) :
    Calls Tryd.prog 24 #[.string p, .string ⟨#[45]⟩] w fun e w' => e = .returned (.bool v) ∧ w' = w := by
  have hl : p.data.toList.length = p.size := Array.length_toList
  by_cases h1 : 1 ≤ p.size
  · have b1 : (1 : Int) ≤ (p.size : Int) := by omega
    obtain ⟨c, t, e⟩ : ∃ c t, p.data.toList = c :: t := by
      cases h : p.data.toList with
      | nil => rw [h] at hl; simp at hl; omega
      | cons c t => exact ⟨c, t, rfl⟩
    have he : (p.extract 0 1).toList = [c] := by rw [Lib.extract_toList, e]; rfl
    have HV : Hid (((p.extract 0 1).toList == [45]) = v) := by
      rw [Hid, he, Bool.eq_iff_iff, ← hv, beq_iff_eq, e]
      simp
    clear hv hl e he
    go_enter Tryd.func24, Tryd.ntmps24
    go_wp2_with fail
    go_ret
    exact ⟨by rw [← HV.out]; rfl, rfl⟩
  · have b1 : ¬ (1 : Int) ≤ (p.size : Int) := by omega
    have HV : Hid (v = false) := by
      rw [Hid, Bool.eq_false_iff]
      intro h
      obtain ⟨t, e⟩ := hv.2 h
      rw [e] at hl
      simp at hl
      omega
    clear hv hl
    go_enter Tryd.func24, Tryd.ntmps24
    go_wp2_with fail
    go_ret
    exact ⟨by rw [HV.out]; rfl, rfl⟩

theorem shl_zero {x : Nat} (hx : x < 18446744073709551616) : (IntKind.u64.wrap ((x : Int) * 2) == 0) = decide (rg x = 0) := by
  rw [Bool.eq_iff_iff, beq_iff_eq, decide_eq_true_iff]
  unfold rg
  unfold IntKind.wrap
  simp only [IntKind.bits, IntKind.signed]
  simp
  omega
theorem xor_opp {x : Nat} (hx : x < 18446744073709551616) : bits .xor .u64 (x : Int) 9223372036854775808 = (opp x : Int) := by
  have h := u64_xor_nat x 9223372036854775808 hx (by omega)
  have h2 := opp_xor hx
  rw [show (2 : Nat) ^ 63 = 9223372036854775808 from rfl] at h2
  rw [h2] at h
  exact h
theorem nanW_nan : nanB nanW = true := by decide +kernel

set_option maxRecDepth 100000 in
set_option maxHeartbeats 8000000 in
theorem signs_nat (x y : Nat) (hx : x < 18446744073709551616) (hy : y < 18446744073709551616) (w : World) (hT : Tabs w) :
    Calls Tryd.prog 11 #[.int .u64 x, .int .u64 y] w fun e w' => e = .returned (.bool true) ∧ Below w.heap.size w w' := by
  cases hnx : nanB x with
  | true =>
    have N1 : Hid (∀ w, _) := fun w => noNumber_any x hx w
    rw [hnx] at N1
    clear hnx
    go_enter Tryd.func11, Tryd.ntmps11
    go_wp2_with fail
    refine (alive_any w).mono ?_
    rintro e w1 ⟨rfl, hB⟩
    have HB := Lib.hid hB
    clear hB
    go_wp2_with fail
    refine (N1.out w1).mono ?_
    rintro e w2 ⟨rfl, h⟩
    obtain rfl := h.symm
    go_wp2_with fail
    go_ret
    exact ⟨rfl, HB.out⟩
  | false =>
  cases hny : nanB y with
  | true =>
    have N1 : Hid (∀ w, _) := fun w => noNumber_any x hx w
    have N2 : Hid (∀ w, _) := fun w => noNumber_any y hy w
    rw [hnx] at N1
    rw [hny] at N2
    clear hnx hny
    go_enter Tryd.func11, Tryd.ntmps11
    go_wp2_with fail
    refine (alive_any w).mono ?_
    rintro e w1 ⟨rfl, hB⟩
    have HB := Lib.hid hB
    clear hB
    go_wp2_with fail
    refine (N1.out w1).mono ?_
    rintro e w2 ⟨rfl, h⟩
    obtain rfl := h.symm
    go_wp2_with fail
    refine (N2.out w1).mono ?_
    rintro e w2 ⟨rfl, h⟩
    obtain rfl := h.symm
    go_wp2_with fail
    go_ret
    exact ⟨rfl, HB.out⟩
  | false =>
    have N1 : Hid (∀ w, _) := fun w => noNumber_any x hx w
    have N2 : Hid (∀ w, _) := fun w => noNumber_any y hy w
    rw [hnx] at N1
    rw [hny] at N2
    have hsub := sub_turn hnx hny
    obtain ⟨a, ha⟩ : ∃ a, fo (D.sub x y) = a := ⟨_, rfl⟩
    obtain ⟨b, hb⟩ : ∃ b, fo (D.sub y x) = b := ⟨_, rfl⟩
    have OA : Hid (∀ w, _) := fun w => Op_sub x y w
    have OB : Hid (∀ w, _) := fun w => Op_sub y x w
    rw [ha] at OA
    rw [hb] at OB
    have OM : Hid (∀ w, _) := fun w => Op_mul x 13830554455654793216 w
    rw [mul_mone hnx, show fo (some (opp x)) = opp x from rfl] at OM
    have hab : a < 18446744073709551616 ∧ b < 18446744073709551616 ∧ ((nanB a = true ∧ nanB b = true) ∨ (nanB a = false ∧ rg b = rg a ∧ (b = opp a ∨ rg a = 0))) := by
      rcases hsub with ⟨e1, e2⟩ | ⟨a', b', e1, e2, e3, e4⟩
      · rw [e1] at ha
        rw [e2] at hb
        obtain rfl : nanW = a := ha
        obtain rfl : nanW = b := hb
        exact ⟨by decide +kernel, by decide +kernel, .inl ⟨nanW_nan, nanW_nan⟩⟩
      · have o1 := sub_ok e1
        have o2 := sub_ok e2
        rw [e1] at ha
        rw [e2] at hb
        obtain rfl : a' = a := ha
        obtain rfl : b' = b := hb
        exact ⟨o1.2, o2.2, .inr ⟨o1.1, e3, e4⟩⟩
    obtain ⟨la, lb, hab⟩ := hab
    have NA : Hid (∀ w, _) := fun w => noNumber_any a la w
    have NB : Hid (∀ w, _) := fun w => noNumber_any b lb w
    have sa := shl_zero la
    have sb := shl_zero lb
    have xx := xor_opp hx
    have xb := xor_opp lb
    have lo : opp x < 18446744073709551616 := opp_lt
    obtain ⟨S, hS⟩ : ∃ S : ByteArray, ⟨(textL x).toArray⟩ = S := ⟨_, rfl⟩
    obtain ⟨T, hT2⟩ : ∃ T : ByteArray, ⟨(textL (opp x)).toArray⟩ = T := ⟨_, rfl⟩
    have TS : Hid (∀ w, Tabs w → _) := fun w h => Text_any x hx w h
    have TT : Hid (∀ w, Tabs w → _) := fun w h => Text_any (opp x) lo w h
    rw [hS] at TS
    rw [hT2] at TT
    have htt := text_turn hx hnx
    have hSl : S.data.toList = textL x := by rw [← hS]
    have hTl : T.data.toList = textL (opp x) := by rw [← hT2]
    rw [← hSl, ← hTl] at htt
    have HTT := Lib.hid htt
    have hHT := Lib.hid hT
    have HAB := Lib.hid hab
    obtain ⟨o, ho⟩ : ∃ o, opp x = o := ⟨_, rfl⟩
    rw [ho] at OM xx TT
    obtain ⟨ob, hob⟩ : ∃ o, opp b = o := ⟨_, rfl⟩
    rw [hob] at xb
    have HOB := Lib.hid hob
    have la' := Lib.hid la
    have lb' := Lib.hid lb
    clear hsub ha hb hab htt hSl hTl hT hS hT2 ho hnx hny hx hy lo hob la lb
    obtain ⟨za, hza⟩ : ∃ z, decide (rg a = 0) = z := ⟨_, rfl⟩
    obtain ⟨zb, hzb⟩ : ∃ z, decide (rg b = 0) = z := ⟨_, rfl⟩
    rw [hza] at sa
    rw [hzb] at sb
    have HZA := Lib.hid hza
    have HZB := Lib.hid hzb
    clear hza hzb
    rcases HTT.out with ht | ⟨d, ht1, ht2, ht3⟩ | ⟨c, d, ht1, ht2, ht3, ht4⟩
    · have hs18 : S.size = 18 := by
        have h1 : S.data.toList.length = S.size := Array.length_toList
        omega
      have hl18 : ((S.size : Int) == 18) = true := by rw [beq_iff_eq]; omega
      clear ht hs18
      rcases HAB.out with ⟨n1, n2⟩ | ⟨n1, n3, n4⟩
      · rw [n1] at NA
        rw [n2] at NB
        clear n1 n2
        go_enter Tryd.func11, Tryd.ntmps11
        go_wp2_with fail
        refine (alive_any w).mono ?_
        rintro e w1 ⟨rfl, hB⟩
        have HB1 := Lib.hid hB
        clear hB
        go_wp2_with fail
        refine (N1.out w1).mono ?_
        rintro e w' ⟨rfl, h⟩
        obtain rfl := h.symm
        go_wp2_with fail
        refine (N2.out w1).mono ?_
        rintro e w' ⟨rfl, h⟩
        obtain rfl := h.symm
        go_wp2_with fail
        refine (OA.out w1).mono ?_
        rintro e w2 ⟨rfl, h⟩
        have HB2 := Lib.hid (below_trans HB1.out (below_drew h))
        clear h
        go_wp2_with fail
        refine (OB.out w2).mono ?_
        rintro e w3 ⟨rfl, h⟩
        have HB3 := Lib.hid (below_trans HB2.out (below_drew h))
        clear h
        go_wp2_with fail
        refine (OM.out w3).mono ?_
        rintro e w4 ⟨rfl, h⟩
        have HB4 := Lib.hid (below_trans HB3.out (below_drew h))
        clear h
        go_wp2_with fail
        refine (TS.out w4 (hHT.out.below HB4.out)).mono ?_
        rintro e w5 ⟨rfl, hB⟩
        have HB5 := Lib.hid (below_trans HB4.out hB)
        clear hB
        go_wp2_with fail
        refine (TT.out w5 (hHT.out.below HB5.out)).mono ?_
        rintro e w6 ⟨rfl, hB⟩
        have HB6 := Lib.hid (below_trans HB5.out hB)
        clear hB
        go_wp2_with fail
        refine (NA.out w6).mono ?_
        rintro e w' ⟨rfl, h⟩
        obtain rfl := h.symm
        go_wp2_with fail
        refine (NB.out w6).mono ?_
        rintro e w' ⟨rfl, h⟩
        obtain rfl := h.symm
        go_wp2_with fail
        go_ret
        exact ⟨rfl, HB6.out⟩
      · rw [n1] at NA
        clear n1
        cases za with
        | true =>
          have hzb : zb = true := by
            have h1 := HZA.out
            rw [decide_eq_true_iff] at h1
            rw [← HZB.out, decide_eq_true_iff, n3]; exact h1
          subst hzb
          clear n3 n4
          go_enter Tryd.func11, Tryd.ntmps11
          go_wp2_with fail
          refine (alive_any w).mono ?_
          rintro e w1 ⟨rfl, hB⟩
          have HB1 := Lib.hid hB
          clear hB
          go_wp2_with fail
          refine (N1.out w1).mono ?_
          rintro e w' ⟨rfl, h⟩
          obtain rfl := h.symm
          go_wp2_with fail
          refine (N2.out w1).mono ?_
          rintro e w' ⟨rfl, h⟩
          obtain rfl := h.symm
          go_wp2_with fail
          refine (OA.out w1).mono ?_
          rintro e w2 ⟨rfl, h⟩
          have HB2 := Lib.hid (below_trans HB1.out (below_drew h))
          clear h
          go_wp2_with fail
          refine (OB.out w2).mono ?_
          rintro e w3 ⟨rfl, h⟩
          have HB3 := Lib.hid (below_trans HB2.out (below_drew h))
          clear h
          go_wp2_with fail
          refine (OM.out w3).mono ?_
          rintro e w4 ⟨rfl, h⟩
          have HB4 := Lib.hid (below_trans HB3.out (below_drew h))
          clear h
          go_wp2_with fail
          refine (TS.out w4 (hHT.out.below HB4.out)).mono ?_
          rintro e w5 ⟨rfl, hB⟩
          have HB5 := Lib.hid (below_trans HB4.out hB)
          clear hB
          go_wp2_with fail
          refine (TT.out w5 (hHT.out.below HB5.out)).mono ?_
          rintro e w6 ⟨rfl, hB⟩
          have HB6 := Lib.hid (below_trans HB5.out hB)
          clear hB
          go_wp2_with fail
          refine (NA.out w6).mono ?_
          rintro e w' ⟨rfl, h⟩
          obtain rfl := h.symm
          go_wp2_with fail
          go_ret
          exact ⟨rfl, HB6.out⟩
        | false =>
          have hba : b = opp a := by
            rcases n4 with h | h
            · exact h
            · have h1 := HZA.out
              rw [decide_eq_false_iff_not] at h1
              exact absurd h h1
          have hab2 : (a : Int) = (ob : Int) := by
            rw [← HOB.out, hba, opp_opp a la'.out]
          have hab3 : a = ob := by omega
          subst hab3
          clear n3 n4 hba hab2
          go_enter Tryd.func11, Tryd.ntmps11
          go_wp2_with fail
          refine (alive_any w).mono ?_
          rintro e w1 ⟨rfl, hB⟩
          have HB1 := Lib.hid hB
          clear hB
          go_wp2_with fail
          refine (N1.out w1).mono ?_
          rintro e w' ⟨rfl, h⟩
          obtain rfl := h.symm
          go_wp2_with fail
          refine (N2.out w1).mono ?_
          rintro e w' ⟨rfl, h⟩
          obtain rfl := h.symm
          go_wp2_with fail
          refine (OA.out w1).mono ?_
          rintro e w2 ⟨rfl, h⟩
          have HB2 := Lib.hid (below_trans HB1.out (below_drew h))
          clear h
          go_wp2_with fail
          refine (OB.out w2).mono ?_
          rintro e w3 ⟨rfl, h⟩
          have HB3 := Lib.hid (below_trans HB2.out (below_drew h))
          clear h
          go_wp2_with fail
          refine (OM.out w3).mono ?_
          rintro e w4 ⟨rfl, h⟩
          have HB4 := Lib.hid (below_trans HB3.out (below_drew h))
          clear h
          go_wp2_with fail
          refine (TS.out w4 (hHT.out.below HB4.out)).mono ?_
          rintro e w5 ⟨rfl, hB⟩
          have HB5 := Lib.hid (below_trans HB4.out hB)
          clear hB
          go_wp2_with fail
          refine (TT.out w5 (hHT.out.below HB5.out)).mono ?_
          rintro e w6 ⟨rfl, hB⟩
          have HB6 := Lib.hid (below_trans HB5.out hB)
          clear hB
          go_wp2_with fail
          refine (NA.out w6).mono ?_
          rintro e w' ⟨rfl, h⟩
          obtain rfl := h.symm
          go_wp2_with fail
          go_ret
          exact ⟨rfl, HB6.out⟩
    · have hs18 : S.size < 18 ∧ 1 ≤ S.size := by
        have h1 : S.data.toList.length = S.size := Array.length_toList
        rw [ht1] at h1
        simp at h1
        omega
      have hl18 : ((S.size : Int) == 18) = false := by rw [beq_eq_false_iff_ne]; omega
      have BG := Lib.hid (fun w => Begins_minus S w true ⟨fun _ => rfl, fun _ => ⟨d, ht1⟩⟩)
      have hcut : S.extract 1 S.size = T := by
        have e1 : (S.extract 1 S.size).data.toList = T.data.toList := by
          rw [← Lib.toList_data, Lib.extract_toList, ht1, ht2]
          have h1 : S.data.toList.length = S.size := Array.length_toList
          rw [ht1] at h1
          simp at h1
          rw [List.drop_one, List.tail_cons, List.take_of_length_le (by omega)]
        exact ByteArray.ext (Array.ext' e1)
      have hone : (1 : Int) ≤ (S.size : Int) := by omega
      clear ht1 ht2 ht3 hs18
      rcases HAB.out with ⟨n1, n2⟩ | ⟨n1, n3, n4⟩
      · rw [n1] at NA
        rw [n2] at NB
        clear n1 n2
        go_enter Tryd.func11, Tryd.ntmps11
        go_wp2_with fail
        refine (alive_any w).mono ?_
        rintro e w1 ⟨rfl, hB⟩
        have HB1 := Lib.hid hB
        clear hB
        go_wp2_with fail
        refine (N1.out w1).mono ?_
        rintro e w' ⟨rfl, h⟩
        obtain rfl := h.symm
        go_wp2_with fail
        refine (N2.out w1).mono ?_
        rintro e w' ⟨rfl, h⟩
        obtain rfl := h.symm
        go_wp2_with fail
        refine (OA.out w1).mono ?_
        rintro e w2 ⟨rfl, h⟩
        have HB2 := Lib.hid (below_trans HB1.out (below_drew h))
        clear h
        go_wp2_with fail
        refine (OB.out w2).mono ?_
        rintro e w3 ⟨rfl, h⟩
        have HB3 := Lib.hid (below_trans HB2.out (below_drew h))
        clear h
        go_wp2_with fail
        refine (OM.out w3).mono ?_
        rintro e w4 ⟨rfl, h⟩
        have HB4 := Lib.hid (below_trans HB3.out (below_drew h))
        clear h
        go_wp2_with fail
        refine (TS.out w4 (hHT.out.below HB4.out)).mono ?_
        rintro e w5 ⟨rfl, hB⟩
        have HB5 := Lib.hid (below_trans HB4.out hB)
        clear hB
        go_wp2_with fail
        refine (TT.out w5 (hHT.out.below HB5.out)).mono ?_
        rintro e w6 ⟨rfl, hB⟩
        have HB6 := Lib.hid (below_trans HB5.out hB)
        clear hB
        go_wp2_with fail
        refine (BG.out w6).mono ?_
        rintro e w' ⟨rfl, h⟩
        obtain rfl := h.symm
        go_wp2_with fail
        refine (NA.out w6).mono ?_
        rintro e w' ⟨rfl, h⟩
        obtain rfl := h.symm
        go_wp2_with fail
        refine (NB.out w6).mono ?_
        rintro e w' ⟨rfl, h⟩
        obtain rfl := h.symm
        go_wp2_with fail
        go_ret
        exact ⟨rfl, HB6.out⟩
      · rw [n1] at NA
        clear n1
        cases za with
        | true =>
          have hzb : zb = true := by
            have h1 := HZA.out
            rw [decide_eq_true_iff] at h1
            rw [← HZB.out, decide_eq_true_iff, n3]; exact h1
          subst hzb
          clear n3 n4
          go_enter Tryd.func11, Tryd.ntmps11
          go_wp2_with fail
          refine (alive_any w).mono ?_
          rintro e w1 ⟨rfl, hB⟩
          have HB1 := Lib.hid hB
          clear hB
          go_wp2_with fail
          refine (N1.out w1).mono ?_
          rintro e w' ⟨rfl, h⟩
          obtain rfl := h.symm
          go_wp2_with fail
          refine (N2.out w1).mono ?_
          rintro e w' ⟨rfl, h⟩
          obtain rfl := h.symm
          go_wp2_with fail
          refine (OA.out w1).mono ?_
          rintro e w2 ⟨rfl, h⟩
          have HB2 := Lib.hid (below_trans HB1.out (below_drew h))
          clear h
          go_wp2_with fail
          refine (OB.out w2).mono ?_
          rintro e w3 ⟨rfl, h⟩
          have HB3 := Lib.hid (below_trans HB2.out (below_drew h))
          clear h
          go_wp2_with fail
          refine (OM.out w3).mono ?_
          rintro e w4 ⟨rfl, h⟩
          have HB4 := Lib.hid (below_trans HB3.out (below_drew h))
          clear h
          go_wp2_with fail
          refine (TS.out w4 (hHT.out.below HB4.out)).mono ?_
          rintro e w5 ⟨rfl, hB⟩
          have HB5 := Lib.hid (below_trans HB4.out hB)
          clear hB
          go_wp2_with fail
          refine (TT.out w5 (hHT.out.below HB5.out)).mono ?_
          rintro e w6 ⟨rfl, hB⟩
          have HB6 := Lib.hid (below_trans HB5.out hB)
          clear hB
          go_wp2_with fail
          refine (BG.out w6).mono ?_
          rintro e w' ⟨rfl, h⟩
          obtain rfl := h.symm
          go_wp2_with fail
          refine (NA.out w6).mono ?_
          rintro e w' ⟨rfl, h⟩
          obtain rfl := h.symm
          go_wp2_with fail
          go_ret
          exact ⟨rfl, HB6.out⟩
        | false =>
          have hba : b = opp a := by
            rcases n4 with h | h
            · exact h
            · have h1 := HZA.out
              rw [decide_eq_false_iff_not] at h1
              exact absurd h h1
          have hab2 : (a : Int) = (ob : Int) := by
            rw [← HOB.out, hba, opp_opp a la'.out]
          have hab3 : a = ob := by omega
          subst hab3
          clear n3 n4 hba hab2
          go_enter Tryd.func11, Tryd.ntmps11
          go_wp2_with fail
          refine (alive_any w).mono ?_
          rintro e w1 ⟨rfl, hB⟩
          have HB1 := Lib.hid hB
          clear hB
          go_wp2_with fail
          refine (N1.out w1).mono ?_
          rintro e w' ⟨rfl, h⟩
          obtain rfl := h.symm
          go_wp2_with fail
          refine (N2.out w1).mono ?_
          rintro e w' ⟨rfl, h⟩
          obtain rfl := h.symm
          go_wp2_with fail
          refine (OA.out w1).mono ?_
          rintro e w2 ⟨rfl, h⟩
          have HB2 := Lib.hid (below_trans HB1.out (below_drew h))
          clear h
          go_wp2_with fail
          refine (OB.out w2).mono ?_
          rintro e w3 ⟨rfl, h⟩
          have HB3 := Lib.hid (below_trans HB2.out (below_drew h))
          clear h
          go_wp2_with fail
          refine (OM.out w3).mono ?_
          rintro e w4 ⟨rfl, h⟩
          have HB4 := Lib.hid (below_trans HB3.out (below_drew h))
          clear h
          go_wp2_with fail
          refine (TS.out w4 (hHT.out.below HB4.out)).mono ?_
          rintro e w5 ⟨rfl, hB⟩
          have HB5 := Lib.hid (below_trans HB4.out hB)
          clear hB
          go_wp2_with fail
          refine (TT.out w5 (hHT.out.below HB5.out)).mono ?_
          rintro e w6 ⟨rfl, hB⟩
          have HB6 := Lib.hid (below_trans HB5.out hB)
          clear hB
          go_wp2_with fail
          refine (BG.out w6).mono ?_
          rintro e w' ⟨rfl, h⟩
          obtain rfl := h.symm
          go_wp2_with fail
          refine (NA.out w6).mono ?_
          rintro e w' ⟨rfl, h⟩
          obtain rfl := h.symm
          go_wp2_with fail
          go_ret
          exact ⟨rfl, HB6.out⟩
    · have hs18 : S.size < 18 ∧ 1 ≤ T.size := by
        have h1 : S.data.toList.length = S.size := Array.length_toList
        have h2 : T.data.toList.length = T.size := Array.length_toList
        rw [ht2] at h1
        rw [ht1] at h2
        simp at h1 h2 ht4
        omega
      have hl18 : ((S.size : Int) == 18) = false := by rw [beq_eq_false_iff_ne]; omega
      have BG0 := Lib.hid (fun w => Begins_minus S w false ⟨fun ⟨t, e⟩ => by rw [ht2] at e; injection e with e _; exact absurd e ht3, fun e => by cases e⟩)
      have BG := Lib.hid (fun w => Begins_minus T w true ⟨fun _ => rfl, fun _ => ⟨c :: d, ht1⟩⟩)
      have hcut : T.extract 1 T.size = S := by
        have e1 : (T.extract 1 T.size).data.toList = S.data.toList := by
          rw [← Lib.toList_data, Lib.extract_toList, ht1, ht2]
          have h1 : T.data.toList.length = T.size := Array.length_toList
          rw [ht1] at h1
          simp at h1
          rw [List.drop_one, List.tail_cons, List.take_of_length_le (by simp; omega)]
        exact ByteArray.ext (Array.ext' e1)
      have hone : (1 : Int) ≤ (T.size : Int) := by omega
      clear ht1 ht2 ht3 ht4 hs18
      rcases HAB.out with ⟨n1, n2⟩ | ⟨n1, n3, n4⟩
      · rw [n1] at NA
        rw [n2] at NB
        clear n1 n2
        go_enter Tryd.func11, Tryd.ntmps11
        go_wp2_with fail
        refine (alive_any w).mono ?_
        rintro e w1 ⟨rfl, hB⟩
        have HB1 := Lib.hid hB
        clear hB
        go_wp2_with fail
        refine (N1.out w1).mono ?_
        rintro e w' ⟨rfl, h⟩
        obtain rfl := h.symm
        go_wp2_with fail
        refine (N2.out w1).mono ?_
        rintro e w' ⟨rfl, h⟩
        obtain rfl := h.symm
        go_wp2_with fail
        refine (OA.out w1).mono ?_
        rintro e w2 ⟨rfl, h⟩
        have HB2 := Lib.hid (below_trans HB1.out (below_drew h))
        clear h
        go_wp2_with fail
        refine (OB.out w2).mono ?_
        rintro e w3 ⟨rfl, h⟩
        have HB3 := Lib.hid (below_trans HB2.out (below_drew h))
        clear h
        go_wp2_with fail
        refine (OM.out w3).mono ?_
        rintro e w4 ⟨rfl, h⟩
        have HB4 := Lib.hid (below_trans HB3.out (below_drew h))
        clear h
        go_wp2_with fail
        refine (TS.out w4 (hHT.out.below HB4.out)).mono ?_
        rintro e w5 ⟨rfl, hB⟩
        have HB5 := Lib.hid (below_trans HB4.out hB)
        clear hB
        go_wp2_with fail
        refine (TT.out w5 (hHT.out.below HB5.out)).mono ?_
        rintro e w6 ⟨rfl, hB⟩
        have HB6 := Lib.hid (below_trans HB5.out hB)
        clear hB
        go_wp2_with fail
        refine (BG0.out w6).mono ?_
        rintro e w' ⟨rfl, h⟩
        obtain rfl := h.symm
        go_wp2_with fail
        refine (BG.out w6).mono ?_
        rintro e w' ⟨rfl, h⟩
        obtain rfl := h.symm
        go_wp2_with fail
        refine (NA.out w6).mono ?_
        rintro e w' ⟨rfl, h⟩
        obtain rfl := h.symm
        go_wp2_with fail
        refine (NB.out w6).mono ?_
        rintro e w' ⟨rfl, h⟩
        obtain rfl := h.symm
        go_wp2_with fail
        go_ret
        exact ⟨rfl, HB6.out⟩
      · rw [n1] at NA
        clear n1
        cases za with
        | true =>
          have hzb : zb = true := by
            have h1 := HZA.out
            rw [decide_eq_true_iff] at h1
            rw [← HZB.out, decide_eq_true_iff, n3]; exact h1
          subst hzb
          clear n3 n4
          go_enter Tryd.func11, Tryd.ntmps11
          go_wp2_with fail
          refine (alive_any w).mono ?_
          rintro e w1 ⟨rfl, hB⟩
          have HB1 := Lib.hid hB
          clear hB
          go_wp2_with fail
          refine (N1.out w1).mono ?_
          rintro e w' ⟨rfl, h⟩
          obtain rfl := h.symm
          go_wp2_with fail
          refine (N2.out w1).mono ?_
          rintro e w' ⟨rfl, h⟩
          obtain rfl := h.symm
          go_wp2_with fail
          refine (OA.out w1).mono ?_
          rintro e w2 ⟨rfl, h⟩
          have HB2 := Lib.hid (below_trans HB1.out (below_drew h))
          clear h
          go_wp2_with fail
          refine (OB.out w2).mono ?_
          rintro e w3 ⟨rfl, h⟩
          have HB3 := Lib.hid (below_trans HB2.out (below_drew h))
          clear h
          go_wp2_with fail
          refine (OM.out w3).mono ?_
          rintro e w4 ⟨rfl, h⟩
          have HB4 := Lib.hid (below_trans HB3.out (below_drew h))
          clear h
          go_wp2_with fail
          refine (TS.out w4 (hHT.out.below HB4.out)).mono ?_
          rintro e w5 ⟨rfl, hB⟩
          have HB5 := Lib.hid (below_trans HB4.out hB)
          clear hB
          go_wp2_with fail
          refine (TT.out w5 (hHT.out.below HB5.out)).mono ?_
          rintro e w6 ⟨rfl, hB⟩
          have HB6 := Lib.hid (below_trans HB5.out hB)
          clear hB
          go_wp2_with fail
          refine (BG0.out w6).mono ?_
          rintro e w' ⟨rfl, h⟩
          obtain rfl := h.symm
          go_wp2_with fail
          refine (BG.out w6).mono ?_
          rintro e w' ⟨rfl, h⟩
          obtain rfl := h.symm
          go_wp2_with fail
          refine (NA.out w6).mono ?_
          rintro e w' ⟨rfl, h⟩
          obtain rfl := h.symm
          go_wp2_with fail
          go_ret
          exact ⟨rfl, HB6.out⟩
        | false =>
          have hba : b = opp a := by
            rcases n4 with h | h
            · exact h
            · have h1 := HZA.out
              rw [decide_eq_false_iff_not] at h1
              exact absurd h h1
          have hab2 : (a : Int) = (ob : Int) := by
            rw [← HOB.out, hba, opp_opp a la'.out]
          have hab3 : a = ob := by omega
          subst hab3
          clear n3 n4 hba hab2
          go_enter Tryd.func11, Tryd.ntmps11
          go_wp2_with fail
          refine (alive_any w).mono ?_
          rintro e w1 ⟨rfl, hB⟩
          have HB1 := Lib.hid hB
          clear hB
          go_wp2_with fail
          refine (N1.out w1).mono ?_
          rintro e w' ⟨rfl, h⟩
          obtain rfl := h.symm
          go_wp2_with fail
          refine (N2.out w1).mono ?_
          rintro e w' ⟨rfl, h⟩
          obtain rfl := h.symm
          go_wp2_with fail
          refine (OA.out w1).mono ?_
          rintro e w2 ⟨rfl, h⟩
          have HB2 := Lib.hid (below_trans HB1.out (below_drew h))
          clear h
          go_wp2_with fail
          refine (OB.out w2).mono ?_
          rintro e w3 ⟨rfl, h⟩
          have HB3 := Lib.hid (below_trans HB2.out (below_drew h))
          clear h
          go_wp2_with fail
          refine (OM.out w3).mono ?_
          rintro e w4 ⟨rfl, h⟩
          have HB4 := Lib.hid (below_trans HB3.out (below_drew h))
          clear h
          go_wp2_with fail
          refine (TS.out w4 (hHT.out.below HB4.out)).mono ?_
          rintro e w5 ⟨rfl, hB⟩
          have HB5 := Lib.hid (below_trans HB4.out hB)
          clear hB
          go_wp2_with fail
          refine (TT.out w5 (hHT.out.below HB5.out)).mono ?_
          rintro e w6 ⟨rfl, hB⟩
          have HB6 := Lib.hid (below_trans HB5.out hB)
          clear hB
          go_wp2_with fail
          refine (BG0.out w6).mono ?_
          rintro e w' ⟨rfl, h⟩
          obtain rfl := h.symm
          go_wp2_with fail
          refine (BG.out w6).mono ?_
          rintro e w' ⟨rfl, h⟩
          obtain rfl := h.symm
          go_wp2_with fail
          refine (NA.out w6).mono ?_
          rintro e w' ⟨rfl, h⟩
          obtain rfl := h.symm
          go_wp2_with fail
          go_ret
          exact ⟨rfl, HB6.out⟩
end Go.Proofs.YtplhgjngbnkhbaaDoor
