import Derived.Test.YthbemfpoanmjcaaDoorBJ
namespace Go.Proofs.YthbemfpoanmjcaaDoor
open Go.RowKit
set_option linter.unusedVariables false

theorem evs_rep : ∀ (k : Nat) (p : Bool), evs (List.replicate k 36) p = if k % 2 = 0 then p else !p
  | 0, p => rfl
  | k + 1, p => by
    rw [List.replicate_succ, evs, if_pos rfl, evs_rep k]
    by_cases h : k % 2 = 0
    · rw [if_pos h, if_neg (by omega)]
    · rw [if_neg h, if_pos (by omega), Bool.not_not]
theorem evs_tail {l : Bs} {k : Nat} (hk : k ≤ l.length) (h : l.drop (l.length - k) = List.replicate k 36) (he : k = l.length ∨ ∃ d, l[l.length - 1 - k]? = some d ∧ d ≠ 36) : evs l true = decide (k % 2 = 0) := by
  have e : l = l.take (l.length - k) ++ List.replicate k 36 := by rw [← h, List.take_append_drop]
  have fin : ∀ p : Bool, p = true → (if k % 2 = 0 then p else !p) = decide (k % 2 = 0) := by
    intro p hp; subst hp
    by_cases h2 : k % 2 = 0
    · rw [if_pos h2, decide_eq_true h2]
    · rw [if_neg h2, decide_eq_false h2]; rfl
  rcases he with he | ⟨d, hd, hne⟩
  · rw [e, show l.length - k = 0 by omega, List.take_zero, List.nil_append, evs_rep]
    exact fin true rfl
  · have hlt : l.length - 1 - k < l.length := by
      rcases Nat.lt_or_ge (l.length - 1 - k) l.length with h1 | h1
      · exact h1
      · rw [List.getElem?_eq_none (by omega)] at hd; cases hd
    rw [List.getElem?_eq_getElem hlt] at hd
    have hd2 := Option.some.inj hd
    have hkl : k < l.length := by
      rcases Nat.lt_or_ge k l.length with h1 | h1
      · exact h1
      · exfalso
        have hk2 : k = l.length := by omega
        have h3 : l = List.replicate k 36 := by rw [e, hk2, Nat.sub_self, List.take_zero, List.nil_append]
        have h4 : l[l.length - 1 - k] ∈ List.replicate k (36 : UInt8) := by rw [← h3]; exact List.getElem_mem hlt
        exact hne (hd2 ▸ (List.mem_replicate.1 h4).2)
    have e2 : l.take (l.length - k) = l.take (l.length - 1 - k) ++ [d] := by
      rw [show l.length - k = (l.length - 1 - k) + 1 by omega, List.take_succ_eq_append_getElem hlt, hd2]
    rw [e, e2, List.append_assoc, List.singleton_append, evs_cut hne, evs_rep]
    exact fin true rfl
set_option maxRecDepth 100000 in
set_option maxHeartbeats 16000000 in
theorem parts_walk (a b : ByteArray) (lv av : Value) (l au : Prs) (W : World) (hl : PV W.heap.size W lv l) (ha : PV W.heap.size W av au) (hlr : ∀ p ∈ l, p.2.size ≤ 140737488351232) (har : ∀ p ∈ au, p.2.size ≤ 140737488351232)
    (hsa : a.size ≤ maxLen) (hsb : b.size ≤ maxLen) (hmm : ∃ m, W.cell? ⟨0, 0, none⟩ = some (.int .i64 m)) :
    Calls Tryd.prog 5 #[.string a, .string b, lv, av] W fun e w' => e = .returned (.bool true) ∧ Below W.heap.size W w' := by
  have HA := Lib.hid (alive_any W hmm)
  have HBG1 := Lib.hid (fun w hb => big_exact lv l w (Below.pv hl hb) hlr)
  have HBG2 := Lib.hid (fun w hb => big_exact av au w (Below.pv ha hb) har)
  have HRX := Lib.hid (fun hz w s hb => RefExpand_any lv av l au hz w s (Below.pv hl hb) (Below.pv ha hb))
  have HXP := Lib.hid (fun hz w s hb => Expand_any lv av l au hz w s (Below.pv hl hb) (Below.pv ha hb) (max_keep hmm hb))
  have HN := Lib.hid (fun n w => num_any n w)
  clear hl ha hlr har hmm hsa hsb
  obtain ⟨qa, hqa⟩ : ∃ q, decide ((300 : Int) < (a.size : Int)) = q := ⟨_, rfl⟩
  obtain ⟨qb, hqb⟩ : ∃ q, decide ((300 : Int) < (b.size : Int)) = q := ⟨_, rfl⟩
  go_enter Tryd.func5, Tryd.ntmps5
  go_wp2_with (first
    | (go_at_call 11; refine HA.out.mono ?_; rintro e w5 ⟨rfl, h5⟩; have HB := Lib.hid h5; clear h5; simp only [])
    | (go_at_call 14; refine (HBG1.out _ HB.out).mono ?_))
  rintro e w6 ⟨b1, rfl, h6, hf1⟩
  obtain rfl := h6.symm
  cases b1 with
  | true =>
    simp only []
    go_wp2_with fail
    go_ret
    exact ⟨rfl, HB.out⟩
  | false =>
  have HF1 := Lib.hid (hf1 rfl)
  clear hf1
  simp only []
  go_wp2_with (go_at_call 14; refine (HBG2.out _ HB.out).mono ?_)
  rintro e w6 ⟨b2, rfl, h6, hf2⟩
  obtain rfl := h6.symm
  cases b2 with
  | true =>
    simp only []
    go_wp2_with fail
    go_ret
    exact ⟨rfl, HB.out⟩
  | false =>
  have HF2 := Lib.hid (hf2 rfl)
  clear hf2
  cases qa with
  | true =>
    simp only []
    go_wp2_with fail
    go_ret
    exact ⟨rfl, HB.out⟩
  | false =>
  cases qb with
  | true =>
    simp only []
    go_wp2_with fail
    go_ret
    exact ⟨rfl, HB.out⟩
  | false =>
  have hsa : a.size ≤ 300 := by have := of_decide_eq_false hqa; omega
  have hsb : b.size ≤ 300 := by have := of_decide_eq_false hqb; omega
  have HR1 := Lib.hid (fun w s hb => HRX.out (fun p hp => Nat.le_trans (HF2.out.2 p hp) (by omega)) w s hb)
  have HX1 := Lib.hid (fun w s hb => HXP.out (fun p hp => Nat.le_trans (HF2.out.2 p hp) (by omega)) w s hb)
  clear HRX HXP HBG1 HBG2 HA
  simp only []
  go_wp2_with (go_at_call 17; refine (HR1.out _ _ HB.out).mono ?_)
  rintro e w7 ⟨x, er1, rfl, hB7, hx⟩
  have HB7 := Lib.hid (HB.out.trans (hB7.mono HB.out.size))
  have HXX := Lib.hid hx
  clear hB7 hx
  simp only []
  go_wp2_with (go_at_call 17; refine (HR1.out _ _ HB7.out).mono ?_)
  rintro e w8 ⟨y, er2, rfl, hB8, hy⟩
  have HB8 := Lib.hid (HB7.out.trans (hB8.mono HB7.out.size))
  have HYY := Lib.hid hy
  clear hB8 hy
  simp only []
  go_wp2_with fail
  go_loopw [15] (fun n wx => ∃ k : Nat, k ≤ a.size ∧ n = .int .i64 k ∧ wx = w8 ∧ Hid (a.data.toList.drop (a.data.toList.length - k) = List.replicate k 36)) (fun n _ => a.size - (intOf n).toNat)
  case atStart => exact ⟨0, Nat.zero_le _, rfl, rfl, by rw [Hid, Nat.sub_zero, List.drop_length]; rfl⟩
  case round =>
    obtain ⟨k, hk, rfl, rfl, HK⟩ := hrel
    have hend : ∀ (he : k = a.size ∨ ∃ d, a.data.toList[a.data.toList.length - 1 - k]? = some d ∧ d ≠ 36), Hid (evs a.data.toList true = decide (k % 2 = 0)) := fun he => evs_tail (by rw [dl]; exact hk) HK.out (by rw [dl] at he ⊢; exact he)
    have hway : (k < a.size ∧ ∃ (q : Nat) (hq : q < a.size), q = a.size - 1 - k ∧ a[q]'hq = 36) ∨ Hid (evs a.data.toList true = decide (k % 2 = 0)) ∧ (k = a.size ∨ (k < a.size ∧ ∃ (q : Nat) (hq : q < a.size), q = a.size - 1 - k ∧ a[q]'hq ≠ 36)) := by
      rcases Nat.lt_or_ge k a.size with h1 | h1
      · have hq : a.size - 1 - k < a.size := by omega
        by_cases hc : a[a.size - 1 - k]'hq = 36
        · exact .inl ⟨h1, _, hq, rfl, hc⟩
        · refine .inr ⟨hend (.inr ⟨a[a.size - 1 - k]'hq, ?_, hc⟩), .inr ⟨h1, _, hq, rfl, hc⟩⟩
          rw [dl]; exact Lib.data_getElem? a _ hq
      · exact .inr ⟨hend (.inl (by omega)), .inl (by omega)⟩
    clear hend
    rcases hway with ⟨hlt, q, hq, hqe, hc⟩ | ⟨HEV, hx⟩
    · have hltd : decide ((k : Int) < (a.size : Int)) = true := decide_eq_true (by omega)
      have s1 : IntKind.i64.wrap ((a.size : Int) - 1) = (a.size : Int) - 1 := wr_in _ (by omega)
      have s2 : IntKind.i64.wrap ((a.size : Int) - 1 - (k : Int)) = (q : Int) := by rw [wr_in _ (by omega)]; omega
      have s3 : IntKind.i64.wrap ((k : Int) + 1) = (k : Int) + 1 := wr_in _ (by omega)
      have hqI : (q : Int) < (a.size : Int) := by omega
      have hq0 : (0 : Int) ≤ (q : Int) := by omega
      have HN2 : Hid (a.data.toList.drop (a.data.toList.length - (k + 1)) = List.replicate (k + 1) 36) := by
        rw [Hid, List.replicate_succ, ← HK.out, dl, show a.size - (k + 1) = q by omega, drop_one hq, hc, show q + 1 = a.size - k by omega]
      obtain ⟨d, hd⟩ : ∃ d, a[q]'hq = d := ⟨_, rfl⟩
      have g1 : ((d.toNat : Int) == 36) = true := by rw [← hd, hc]; rfl
      clear hc HK hqe
      go_wp2_with fail
      go_roundw
      case measure => simp [intOf]; omega
      case rel => exact ⟨k + 1, by omega, by go_num, by simp, HN2.out⟩
    · have hstep : ∃ c : Bool, Hid (c = decide (k % 2 = 0)) ∧ ((k : Int) % 2 == 1) = !c ∧ ((k : Int).tmod 2 == 1) = !c := by
        refine ⟨decide (k % 2 = 0), rfl, ?_, ?_⟩
        · by_cases h : k % 2 = 0
          · rw [decide_eq_true h, Bool.not_true, beq_eq_false_iff_ne]; omega
          · rw [decide_eq_false h, Bool.not_false, beq_iff_eq]; omega
        · rw [Int.tmod_eq_emod_of_nonneg (by omega)]
          by_cases h : k % 2 = 0
          · rw [decide_eq_true h, Bool.not_true, beq_eq_false_iff_ne]; omega
          · rw [decide_eq_false h, Bool.not_false, beq_iff_eq]; omega
      obtain ⟨cev, HCE, hm1, hm2⟩ := hstep
      have HEND : Hid (Below W.heap.size W wr) := HB8.out
      have s1 : IntKind.i64.wrap ((a.size : Int) - 1) = (a.size : Int) - 1 := wr_in _ (by omega)
      have hcond : (¬ k < a.size) ∨ (k < a.size ∧ ∃ (hq : a.size - 1 - k < a.size) (d : UInt8), a[a.size - 1 - k]'hq = d ∧ ((d.toNat : Int) == 36) = false ∧ IntKind.i64.wrap ((a.size : Int) - 1 - (k : Int)) = (a.size : Int) - 1 - (k : Int)) := by
        rcases hx with h | ⟨h, q, hq, hqe, hc⟩
        · exact .inl (by omega)
        · subst hqe
          refine .inr ⟨h, hq, _, rfl, ?_, wr_in _ (by omega)⟩
          rw [show (36 : Int) = ((36 : UInt8).toNat : Int) from rfl, byte_eq]
          simpa using hc
      clear hx HK
      have HCE2 : Hid (cev = evs a.data.toList true) := by rw [Hid, HCE.out, HEV.out]
      have finish : ∀ (P : Prop), ((¬ k < a.size) → P) → ((k < a.size ∧ ∃ (hq : a.size - 1 - k < a.size) (d : UInt8), a[a.size - 1 - k]'hq = d ∧ ((d.toNat : Int) == 36) = false ∧ IntKind.i64.wrap ((a.size : Int) - 1 - (k : Int)) = (a.size : Int) - 1 - (k : Int)) → P) → P := fun P p1 p2 => hcond.elim p1 p2
      by_cases hbad : er1 ≠ 0 ∨ er2 ≠ 0 ∨ cev = false
      · have hsel : (er1 ≠ 0) ∨ (er1 = 0 ∧ er2 ≠ 0) ∨ (er1 = 0 ∧ er2 = 0 ∧ cev = false) := by
          by_cases c1 : er1 = 0
          · by_cases c2 : er2 = 0
            · rcases hbad with h | h | h
              · exact absurd c1 h
              · exact absurd c2 h
              · exact .inr (.inr ⟨c1, c2, h⟩)
            · exact .inr (.inl ⟨c1, c2⟩)
          · exact .inl c1
        clear hbad HXX HYY HCE HCE2 HEV
        rcases hsel with h | ⟨h, h'⟩ | ⟨h, h', h''⟩
        · have g1 : (er1 == 0) = false := by rw [beq_eq_false_iff_ne]; exact h
          have g2 : (er1 != 0) = true := by rw [bne_iff_ne]; exact h
          clear h
          refine finish _ (fun hd => ?_) (fun ⟨hd, hq, d, hdd, hd36, hw⟩ => ?_)
          · clear hcond finish
            go_wp2_with fail
            go_ret
            exact ⟨rfl, HEND.out⟩
          · clear hcond finish
            go_wp2_with fail
            go_ret
            exact ⟨rfl, HEND.out⟩
        · subst h
          have g1 : (er2 == 0) = false := by rw [beq_eq_false_iff_ne]; exact h'
          have g2 : (er2 != 0) = true := by rw [bne_iff_ne]; exact h'
          clear h'
          refine finish _ (fun hd => ?_) (fun ⟨hd, hq, d, hdd, hd36, hw⟩ => ?_)
          · clear hcond finish
            go_wp2_with fail
            go_ret
            exact ⟨rfl, HEND.out⟩
          · clear hcond finish
            go_wp2_with fail
            go_ret
            exact ⟨rfl, HEND.out⟩
        · subst h
          subst h'
          subst h''
          refine finish _ (fun hd => ?_) (fun ⟨hd, hq, d, hdd, hd36, hw⟩ => ?_)
          · clear hcond finish
            go_wp2_with fail
            go_ret
            exact ⟨rfl, HEND.out⟩
          · clear hcond finish
            go_wp2_with fail
            go_ret
            exact ⟨rfl, HEND.out⟩
      · have e1 : er1 = 0 := by
          rcases Classical.em (er1 = 0) with h | h
          · exact h
          · exact absurd (.inl h) hbad
        have e2 : er2 = 0 := by
          rcases Classical.em (er2 = 0) with h | h
          · exact h
          · exact absurd (.inr (.inl h)) hbad
        have e3 : cev = true := by
          cases cev with
          | true => rfl
          | false => exact absurd (.inr (.inr rfl)) hbad
        subst e1
        subst e2
        subst e3
        clear hbad
        obtain ⟨hxs, c1, hc1, hX⟩ := HXX.out rfl
        obtain ⟨hys, c2, hc2, hY⟩ := HYY.out rfl
        have hsum : IntKind.i64.wrap ((x.size : Int) + (y.size : Int)) = (x.size : Int) + (y.size : Int) := wr_in _ (by omega)
        have hall : decide ((16384 : Int) < (x.size : Int) + (y.size : Int)) = true ∨ (decide ((16384 : Int) < (x.size : Int) + (y.size : Int)) = false ∧ Hid ((expandF (bsl l) (bsl au) 40 [] (a ++ b).data.toList 0).1 = (x.data.toList ++ y.data.toList, 0) ∨ (expandF (bsl l) (bsl au) 40 [] (a ++ b).data.toList 0).1.2 = 3)) := by
          by_cases h : x.size + y.size ≤ 16384
          · refine .inr ⟨decide_eq_false (by omega), ?_⟩
            rw [Hid, app_ba]
            exact parts_any _ _ _ _ (by rw [dl]; exact hsa) (by rw [dl]; exact hsb) HCE2.out.symm hc1 hX hY (by rw [dl, dl]; exact h)
          · exact .inl (decide_eq_true (by omega))
        clear hX hY HXX HYY HCE HCE2 HEV
        have hz1 : ¬ (9223372036854775807 < a.size + b.size) := by omega
        have hz2 : ¬ (9223372036854775807 < x.size + y.size) := by omega
        have hx9 := HX1.out wr (a ++ b) HB8.out
        obtain ⟨r, hr⟩ : ∃ r, expandF (bsl l) (bsl au) 40 [] (a ++ b).data.toList 0 = r := ⟨_, rfl⟩
        rw [hr] at hx9 hall
        have HX9 := Lib.hid hx9
        clear hx9 hr HX1 HR1
        rcases hall with hlo | ⟨hlo, HR⟩
        · clear HX9
          refine finish _ (fun hd => ?_) (fun ⟨hd, hq, d, hdd, hd36, hw⟩ => ?_)
          · clear hcond finish
            go_wp2_with fail
            go_ret
            exact ⟨rfl, HEND.out⟩
          · clear hcond finish
            go_wp2_with fail
            go_ret
            exact ⟨rfl, HEND.out⟩
        · obtain ⟨⟨tx, er⟩, cn⟩ := r
          have HP9 : Hid (∀ e w', ExpP wr ((tx, er), cn) e w' → (∃ t : ByteArray, ((er = 0 ∧ t = x ++ y) ∨ er = 3) ∧ e = .returned (.tuple #[.string t, .int .i64 er]) ∧ Below wr.heap.size wr w')) := fun e w' ⟨t, h1, h2, h3⟩ => by
            refine ⟨t, ?_, h1, h3⟩
            rcases HR.out with h | h
            · injection h with h4 h5
              refine .inl ⟨h5, ba_ext ?_⟩
              rw [h2, app_ba]; exact h4
            · exact .inr h
          have HCALL := Lib.hid (Calls.mono HX9.out HP9.out)
          clear HX9 HP9 HR
          refine finish _ (fun hd => ?_) (fun ⟨hd, hq, d, hdd, hd36, hw⟩ => ?_)
          · clear hcond finish
            go_wp2_with (go_at_call 15; refine HCALL.out.mono ?_)
            rintro e w9 ⟨t9, hcase, rfl, hB9⟩
            have HB9 := Lib.hid (HEND.out.trans (hB9.mono HEND.out.size))
            clear hB9
            rcases hcase with ⟨rfl, rfl⟩ | rfl
            · simp only []
              go_wp2_with (go_at_call 16; refine (HN.out _ _).mono ?_; rintro e w6 ⟨rfl, h6⟩; obtain rfl := h6.symm; simp only [])
              go_ret
              exact ⟨rfl, HB9.out⟩
            · simp only []
              go_wp2_with (go_at_call 16; refine (HN.out _ _).mono ?_; rintro e w6 ⟨rfl, h6⟩; obtain rfl := h6.symm; simp only [])
              go_ret
              exact ⟨rfl, HB9.out⟩
          · clear hcond finish
            go_wp2_with (go_at_call 15; refine HCALL.out.mono ?_)
            rintro e w9 ⟨t9, hcase, rfl, hB9⟩
            have HB9 := Lib.hid (HEND.out.trans (hB9.mono HEND.out.size))
            clear hB9
            rcases hcase with ⟨rfl, rfl⟩ | rfl
            · simp only []
              go_wp2_with (go_at_call 16; refine (HN.out _ _).mono ?_; rintro e w6 ⟨rfl, h6⟩; obtain rfl := h6.symm; simp only [])
              go_ret
              exact ⟨rfl, HB9.out⟩
            · simp only []
              go_wp2_with (go_at_call 16; refine (HN.out _ _).mono ?_; rintro e w6 ⟨rfl, h6⟩; obtain rfl := h6.symm; simp only [])
              go_ret
              exact ⟨rfl, HB9.out⟩
end Go.Proofs.YthbemfpoanmjcaaDoor
