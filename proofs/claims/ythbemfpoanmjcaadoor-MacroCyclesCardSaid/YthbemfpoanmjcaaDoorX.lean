import Derived.Test.YthbemfpoanmjcaaDoorW
namespace Go.Proofs.YthbemfpoanmjcaaDoor
open Go.RowKit
set_option linter.unusedVariables false

theorem cy_bounds {z : Int} (h : (Lit.int .i64 z).wf = true) : -9223372036854775808 ≤ z ∧ z ≤ 9223372036854775807 := by
  simp [Lit.wf] at h
  have h1 : IntKind.i64.min = -9223372036854775808 := by decide
  have h2 : IntKind.i64.max = 9223372036854775807 := by decide
  omega
theorem cyA_data (n : Nat) : ((⟨#[36, 40, 109]⟩ : ByteArray) ++ mk (dg n) ++ (⟨#[41]⟩ : ByteArray)).data.toList = cyA n := by
  rw [ByteArray.data_append, Array.toList_append, ByteArray.data_append, Array.toList_append]; rfl
theorem cyB_data (n : Nat) : ((⟨#[36, 123, 109]⟩ : ByteArray) ++ mk (dg n) ++ (⟨#[125]⟩ : ByteArray)).data.toList = cyB n := by
  rw [ByteArray.data_append, Array.toList_append, ByteArray.data_append, Array.toList_append]; rfl
theorem cyM_data (n : Nat) : ((⟨#[109]⟩ : ByteArray) ++ mk (dg n)).data.toList = 109 :: dg n := by
  rw [ByteArray.data_append, Array.toList_append]; rfl
theorem cyX_data (K : ByteArray) : ((⟨#[120]⟩ : ByteArray) ++ K).data.toList = 120 :: K.data.toList := by
  rw [ByteArray.data_append, Array.toList_append]; rfl
set_option maxRecDepth 100000 in
set_option maxHeartbeats 8000000 in
theorem cycles_walk (n back : Int) (W : World) (hn : -9223372036854775808 ≤ n ∧ n ≤ 9223372036854775807) (hb : -9223372036854775808 ≤ back ∧ back ≤ 9223372036854775807) (hmm : ∃ m, W.cell? ⟨0, 0, none⟩ = some (.int .i64 m)) :
    Calls Tryd.prog 6 #[.int .i64 n, .int .i64 back] W fun e w' => e = .returned (.bool true) ∧ Below W.heap.size W w' := by
  have HA := Lib.hid (alive_any W hmm)
  have HMM := Lib.hid (fun w' hb => max_keep (w' := w') hmm hb)
  clear hmm
  by_cases h1 : n < 1
  · have dh1 : decide (n < 1) = true := decide_eq_true h1
    go_enter Tryd.func6, Tryd.ntmps6
    go_wp2_with (go_at_call 11; refine HA.out.mono ?_; rintro e w5 ⟨rfl, h5⟩; have HB := Lib.hid h5; clear h5; simp only [])
    go_ret
    exact ⟨rfl, HB.out⟩
  have dh1 : decide (n < 1) = false := decide_eq_false h1
  by_cases h2 : 30 < n
  · have dh2 : decide (30 < n) = true := decide_eq_true h2
    go_enter Tryd.func6, Tryd.ntmps6
    go_wp2_with (go_at_call 11; refine HA.out.mono ?_; rintro e w5 ⟨rfl, h5⟩; have HB := Lib.hid h5; clear h5; simp only [])
    go_ret
    exact ⟨rfl, HB.out⟩
  have dh2 : decide (30 < n) = false := decide_eq_false h2
  by_cases h3 : back < 0
  · have dh3 : decide (back < 0) = true := decide_eq_true h3
    go_enter Tryd.func6, Tryd.ntmps6
    go_wp2_with (go_at_call 11; refine HA.out.mono ?_; rintro e w5 ⟨rfl, h5⟩; have HB := Lib.hid h5; clear h5; simp only [])
    go_ret
    exact ⟨rfl, HB.out⟩
  have dh3 : decide (back < 0) = false := decide_eq_false h3
  by_cases h4 : n < back
  · have dh4 : decide (n < back) = true := decide_eq_true h4
    go_enter Tryd.func6, Tryd.ntmps6
    go_wp2_with (go_at_call 11; refine HA.out.mono ?_; rintro e w5 ⟨rfl, h5⟩; have HB := Lib.hid h5; clear h5; simp only [])
    go_ret
    exact ⟨rfl, HB.out⟩
  have dh4 : decide (n < back) = false := decide_eq_false h4
  obtain ⟨N, hN⟩ : ∃ N : Nat, n = (N : Int) := ⟨n.toNat, by omega⟩
  subst hN
  obtain ⟨B, hB⟩ : ∃ B : Nat, back = (B : Int) := ⟨back.toNat, by omega⟩
  subst hB
  have hN1 : 1 ≤ N := by omega
  have hN2 : N ≤ 30 := by omega
  have hBN : B ≤ N := by omega
  clear h1 h2 h3 h4 hn hb
  have HDG := Lib.hid (fun k w (h : k < 100) => Digits_any k h w)
  go_enter Tryd.func6, Tryd.ntmps6
  go_wp2_with (go_at_call 11; refine HA.out.mono ?_; rintro e w5 ⟨rfl, h5⟩; have HB := Lib.hid h5; clear h5; simp only [])
  have HP0 := Lib.hid (Po.nil w5)
  go_loopw [6, 7] (fun x i wx => ∃ (k : Nat) (v : Value) (L : Prs), v = x ∧ i = .int .i64 (k : Int) ∧ k ≤ N ∧ Hid (Po w5 wx v L) ∧ Hid (bsl L = cyL N B k) ∧ Hid (∀ p ∈ L, p.2.size ≤ 100)) (fun _ i _ => N + 1 - (intOf i).toNat)
  case atStart => exact ⟨0, _, _, rfl, rfl, Nat.zero_le _, HP0.out, rfl, fun p hp => by simp at hp⟩
  case round =>
    obtain ⟨k, v, L, rfl, rfl, hk, HP, HL, HS⟩ := hrel
    have hLl : L.length = k := by
      have := congrArg List.length HL.out
      simpa [bsl, cyL] using this
    obtain ⟨a0, c0, hv⟩ : ∃ a c, v = .slice a k c := by
      rcases HP.out.own.2 with ⟨h1, h0⟩ | ⟨g, cap, cur, h1, _⟩
      · exact ⟨none, 0, by rw [h1, ← h0, hLl]⟩
      · exact ⟨_, cap, by rw [h1, hLl]⟩
    subst hv
    by_cases hlt : k < N
    · have hld : decide ((k : Int) < (N : Int)) = true := decide_eq_true (by omega)
      have b2 : IntKind.i64.wrap ((k : Int) + 1) = (k : Int) + 1 := IntWalk.i64_in _ (by omega)
      have HD1 : Hid (∀ w, Calls Tryd.prog 18 #[.int .i64 (k : Int)] w fun e w' => e = .returned (.string (mk (dg k))) ∧ w' = w) := fun w => HDG.out k w (by omega)
      have HD2 : Hid (∀ w, Calls Tryd.prog 18 #[.int .i64 ((k : Int) + 1)] w fun e w' => e = .returned (.string (mk (dg (k + 1)))) ∧ w' = w) := fun w => HDG.out (k + 1) w (by omega)
      have HD3 : Hid (∀ w, Calls Tryd.prog 18 #[.int .i64 (B : Int)] w fun e w' => e = .returned (.string (mk (dg B))) ∧ w' = w) := fun w => HDG.out B w (by omega)
      have hq1 := dg_size k
      have hq2 := dg_size (k + 1)
      have hq3 := dg_size B
      have hrd := cyA_data (k + 1)
      have hrb := cyB_data B
      have hnd := cyM_data k
      obtain ⟨D1, hD1⟩ : ∃ D, mk (dg k) = D := ⟨_, rfl⟩
      obtain ⟨D2, hD2⟩ : ∃ D, mk (dg (k + 1)) = D := ⟨_, rfl⟩
      obtain ⟨D3, hD3⟩ : ∃ D, mk (dg B) = D := ⟨_, rfl⟩
      rw [hD1] at HD1 hq1 hnd
      rw [hD2] at HD2 hq2 hrd
      rw [hD3] at HD3 hq3 hrb
      have hz1 : ¬ (9223372036854775807 < 3 + D2.size) := by omega
      have hz2 : ¬ (9223372036854775807 < 3 + D2.size + 1) := by omega
      have hz3 : ¬ (9223372036854775807 < 3 + D3.size) := by omega
      have hz4 : ¬ (9223372036854775807 < 3 + D3.size + 1) := by omega
      have hz5 : ¬ (9223372036854775807 < 1 + D1.size) := by omega
      obtain ⟨K, hK⟩ : ∃ K : ByteArray, (⟨#[36, 40, 109]⟩ : ByteArray) ++ D2 ++ (⟨#[41]⟩ : ByteArray) = K := ⟨_, rfl⟩
      have hKs : K.size = 3 + D2.size + 1 := by rw [← hK, ByteArray.size_append, ByteArray.size_append]; rfl
      rw [hK] at hrd
      obtain ⟨K3, hK3⟩ : ∃ K : ByteArray, (⟨#[36, 123, 109]⟩ : ByteArray) ++ D3 ++ (⟨#[125]⟩ : ByteArray) = K := ⟨_, rfl⟩
      have hK3s : K3.size = 3 + D3.size + 1 := by rw [← hK3, ByteArray.size_append, ByteArray.size_append]; rfl
      rw [hK3] at hrb
      obtain ⟨A, hA⟩ : ∃ A : ByteArray, (⟨#[109]⟩ : ByteArray) ++ D1 = A := ⟨_, rfl⟩
      rw [hA] at hnd
      have hz6 : ¬ (9223372036854775807 < 1 + K.size) := by omega
      have hz7 : ¬ (9223372036854775807 < 1 + K3.size) := by omega
      have HPp := Lib.hid (fun p => HP.out.push (by omega) p)
      have HLp : Hid (∀ Z : ByteArray, Z.data.toList = cyN N B k → Z.size ≤ 20 → (bsl (L ++ [(A, (⟨#[120]⟩ : ByteArray) ++ Z)]) = cyL N B (k + 1)) ∧ ∀ p ∈ L ++ [(A, (⟨#[120]⟩ : ByteArray) ++ Z)], p.2.size ≤ 100) := by
        intro Z hZ hZs
        constructor
        · rw [cyL_succ, ← HL.out]
          unfold bsl
          rw [List.map_append, List.map_singleton, hnd, cyX_data, hZ]
        · intro p hp
          rcases List.mem_append.1 hp with hp | hp
          · exact HS.out p hp
          · simp at hp; rw [hp]; show (_ ++ Z).size ≤ 100; rw [ByteArray.size_append]; show 1 + Z.size ≤ 100; omega
      clear hD1 hD2 hD3 hnd hLl
      by_cases h5 : k + 1 = N
      · have he5 : decide ((k : Int) + 1 = (N : Int)) = true := decide_eq_true (by omega)
        by_cases h6 : B < N
        · have he6 : decide ((B : Int) < (N : Int)) = true := decide_eq_true (by omega)
          obtain ⟨v8, w8, r8, h8, a8, c8, rfl⟩ := HPp.out (A, (⟨#[120]⟩ : ByteArray) ++ K3)
          have HLS := Lib.hid (HLp.out K3 (by rw [hrb, cyN, if_pos h5, if_pos h6]) (by omega))
          have HP8 := Lib.hid h8
          have HL8 := Lib.hid HLS.out.1
          have HS8 := Lib.hid HLS.out.2
          clear h8 HPp HLp hrd hrb hKs hK3s HLS
          go_wp2_with (first
            | (go_at_call 18; with_reducible refine (HD1.out _).mono ?_; rintro e w6 ⟨rfl, h6⟩; obtain rfl := h6.symm; simp only [])
            | (go_at_call 18; with_reducible refine (HD2.out _).mono ?_; rintro e w6 ⟨rfl, h6⟩; obtain rfl := h6.symm; simp only [])
            | (go_at_call 18; with_reducible refine (HD3.out _).mono ?_; rintro e w6 ⟨rfl, h6⟩; obtain rfl := h6.symm; simp only [])
            | (at_builtin; refine wpList_run_append _ rfl _ _ 24 24 rfl _ _ rfl rfl r8 ?_))
          go_roundw
          case measure => simp [intOf] <;> omega
          case rel => exact ⟨k + 1, rfl, hlt, _, by exact HP8.out, HL8.out, fun a b h => HS8.out (a, b) h⟩
        · have he6 : decide ((B : Int) < (N : Int)) = false := decide_eq_false (by omega)
          obtain ⟨v8, w8, r8, h8, a8, c8, rfl⟩ := HPp.out (A, (⟨#[120]⟩ : ByteArray) ++ (⟨#[101, 110, 100]⟩ : ByteArray))
          have HLS := Lib.hid (HLp.out (⟨#[101, 110, 100]⟩ : ByteArray) (by rw [cyN, if_pos h5, if_neg h6]) (by decide))
          have HP8 := Lib.hid h8
          have HL8 := Lib.hid HLS.out.1
          have HS8 := Lib.hid HLS.out.2
          clear h8 HPp HLp hrd hrb hKs hK3s HLS
          go_wp2_with (first
            | (go_at_call 18; with_reducible refine (HD1.out _).mono ?_; rintro e w6 ⟨rfl, h6⟩; obtain rfl := h6.symm; simp only [])
            | (go_at_call 18; with_reducible refine (HD2.out _).mono ?_; rintro e w6 ⟨rfl, h6⟩; obtain rfl := h6.symm; simp only [])
            | (go_at_call 18; with_reducible refine (HD3.out _).mono ?_; rintro e w6 ⟨rfl, h6⟩; obtain rfl := h6.symm; simp only [])
            | (at_builtin; refine wpList_run_append _ rfl _ _ 24 24 rfl _ _ rfl rfl r8 ?_))
          go_roundw
          case measure => simp [intOf] <;> omega
          case rel => exact ⟨k + 1, rfl, hlt, _, by exact HP8.out, HL8.out, fun a b h => HS8.out (a, b) h⟩
      · have he5 : decide ((k : Int) + 1 = (N : Int)) = false := decide_eq_false (by omega)
        obtain ⟨v8, w8, r8, h8, a8, c8, rfl⟩ := HPp.out (A, (⟨#[120]⟩ : ByteArray) ++ K)
        have HLS := Lib.hid (HLp.out K (by rw [hrd, cyN, if_neg h5]) (by omega))
        have HP8 := Lib.hid h8
        have HL8 := Lib.hid HLS.out.1
        have HS8 := Lib.hid HLS.out.2
        clear h8 HPp HLp hrd hrb hKs hK3s HLS
        go_wp2_with (first
          | (go_at_call 18; with_reducible refine (HD1.out _).mono ?_; rintro e w6 ⟨rfl, h6⟩; obtain rfl := h6.symm; simp only [])
          | (go_at_call 18; with_reducible refine (HD2.out _).mono ?_; rintro e w6 ⟨rfl, h6⟩; obtain rfl := h6.symm; simp only [])
          | (go_at_call 18; with_reducible refine (HD3.out _).mono ?_; rintro e w6 ⟨rfl, h6⟩; obtain rfl := h6.symm; simp only [])
          | (at_builtin; refine wpList_run_append _ rfl _ _ 24 24 rfl _ _ rfl rfl r8 ?_))
        go_roundw
        case measure => simp [intOf] <;> omega
        case rel => exact ⟨k + 1, rfl, hlt, _, by exact HP8.out, HL8.out, fun a b h => HS8.out (a, b) h⟩
    · obtain rfl : k = N := by omega
      have hld : decide ((k : Int) < (k : Int)) = false := decide_eq_false (by omega)
      have hBW := HB.out.trans (HP.out.old.mono HB.out.size)
      have HBW := Lib.hid hBW
      have hpv := HP.out.pv (by omega) (fun p hp => by have := HS.out p hp; omega)
      have hx := Expand_any (.slice a0 k c0) (.slice none 0 0) L [] (by simp) wr ⟨#[36, 40, 109, 48, 41]⟩ hpv (PV.nil _ _) (HMM.out _ hBW)
      have hval := cyc_val k B hN1 hN2 hBN
      rw [HL.out] at hx
      obtain ⟨⟨⟨r1, r2⟩, r3⟩, hr⟩ : ∃ r, expandF (cyL k B k) [] 40 [] (cyA 0) 0 = r := ⟨_, rfl⟩
      rw [hr] at hval
      rw [show expandF (cyL k B k) (bsl []) 40 [] (⟨#[36, 40, 109, 48, 41]⟩ : ByteArray).data.toList 0 = _ from hr] at hx
      dsimp only at hval
      have HN := Lib.hid (fun z w => num_any z w)
      clear hr hpv hBW
      by_cases h6 : B < k
      · have he6 : decide ((B : Int) < (k : Int)) = true := decide_eq_true (by omega)
        rw [cyR, if_pos h6] at hval
        injection hval with hv1 hv2
        subst hv1
        subst hv2
        have HX := Lib.hid hx
        clear hx
        go_wp2_with (go_at_call 15; refine HX.out.mono ?_)
        rintro e w8 ⟨t, rfl, ht, hB8⟩
        obtain rfl : t = ⟨#[]⟩ := ba_ext ht
        have HB8 := Lib.hid (HBW.out.trans (hB8.mono HBW.out.size))
        clear ht hB8
        dsimp only
        go_wp2_with (go_at_call 16; refine (HN.out _ _).mono ?_; rintro e w10 ⟨rfl, h10⟩; obtain rfl := h10.symm; simp only [])
        go_ret
        exact ⟨rfl, HB8.out⟩
      · have he6 : decide ((B : Int) < (k : Int)) = false := decide_eq_false (by omega)
        rw [cyR, if_neg h6] at hval
        injection hval with hv1 hv2
        subst hv1
        subst hv2
        have HX := Lib.hid hx
        clear hx
        go_wp2_with (go_at_call 15; refine HX.out.mono ?_)
        rintro e w8 ⟨t, rfl, ht, hB8⟩
        have HT := Lib.hid ht
        have HB8 := Lib.hid (HBW.out.trans (hB8.mono HBW.out.size))
        clear ht hB8
        dsimp only
        go_wp2_with fail
        go_loopw [11, 12] (fun x i wx => ∃ (j : Nat) (S : ByteArray), x = .string S ∧ i = .int .i64 (j : Int) ∧ j ≤ k ∧ wx = w8 ∧ Hid (S.data.toList = List.replicate j 120 ++ [101, 110, 100])) (fun _ i _ => k + 1 - (intOf i).toNat)
        case atStart => exact ⟨0, _, rfl, rfl, Nat.zero_le _, rfl, rfl⟩
        case round =>
          obtain ⟨j, S, rfl, rfl, hj, rfl, HS2⟩ := hrel
          by_cases hjk : j < k
          · have hjd : decide ((j : Int) < (k : Int)) = true := decide_eq_true (by omega)
            have b5 : IntKind.i64.wrap ((j : Int) + 1) = (j : Int) + 1 := IntWalk.i64_in _ (by omega)
            have hSs : S.size = j + 3 := by
              have := congrArg List.length HS2.out
              simpa [← ByteArray.size_data] using this
            have hz8 : ¬ (9223372036854775807 < 1 + S.size) := by omega
            go_wp2_with fail
            go_roundw
            case measure => simp [intOf] <;> omega
            case rel => exact ⟨j + 1, _, rfl, by go_num, by omega, trivial, by rw [Hid, cyX_data, HS2.out]; rfl⟩
          · obtain rfl : j = k := by omega
            have hjd : decide ((j : Int) < (j : Int)) = false := decide_eq_false (by omega)
            obtain rfl : t = S := ba_ext (by rw [HT.out, HS2.out])
            go_wp2_with (go_at_call 16; refine (HN.out _ _).mono ?_; rintro e w10 ⟨rfl, h10⟩; obtain rfl := h10.symm; simp only [])
            go_ret
            exact ⟨rfl, HB8.out⟩
end Go.Proofs.YthbemfpoanmjcaaDoor
