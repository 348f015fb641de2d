import Derived.Test.YthbemfpoanmjcaaDoorU
namespace Go.Proofs.YthbemfpoanmjcaaDoor
open Go.RowKit
set_option linter.unusedVariables false

theorem bounds {z : Int} (h : (Lit.int .i64 z).wf = true) : -9223372036854775808 ≤ z ∧ z ≤ 9223372036854775807 := by
  simp [Lit.wf] at h
  have h1 : IntKind.i64.min = -9223372036854775808 := by decide
  have h2 : IntKind.i64.max = 9223372036854775807 := by decide
  omega
def ref (i : Nat) : Bs := [36, 40, 109] ++ dg i ++ [41]
def manyL (n : Nat) : List Pr := (109 :: dg 0, []) :: (List.range n).map fun i => (109 :: dg (i + 1), ref i ++ ref i)
theorem manyL_succ (n : Nat) : manyL (n + 1) = manyL n ++ [(109 :: dg (n + 1), ref n ++ ref n)] := by unfold manyL; rw [List.range_succ]; simp
theorem many_13 : (expandF (manyL 13) [] 40 [] (ref 13) 0).1 = ([], 3) := by decide +kernel
theorem many_12 : ∀ n : Fin 13, (expandF (manyL n.val) [] 40 [] (ref n.val) 0).1 = ([], 0) := by decide +kernel
theorem many_val (n : Nat) (hn : n ≤ 13) : (expandF (manyL n) [] 40 [] (ref n) 0).1 = ([], if n ≤ 12 then 0 else 3) := by
  by_cases h : n ≤ 12
  · rw [if_pos h]; exact many_12 ⟨n, by omega⟩
  · obtain rfl : n = 13 := by omega
    rw [if_neg h]; exact many_13
theorem shl_all : ∀ k : Fin 14, decide (wrap64 (wrap64 (2 ^ (k.val + 1)) - 1) ≤ 10000) = decide (k.val ≤ 12) := by
  decide +kernel
theorem ref_data (n : Nat) : ((⟨#[36, 40, 109]⟩ : ByteArray) ++ mk (dg n) ++ (⟨#[41]⟩ : ByteArray)).data.toList = ref n := by
  rw [ByteArray.data_append, Array.toList_append, ByteArray.data_append, Array.toList_append]; rfl
theorem nm_data (n : Nat) : ((⟨#[109]⟩ : ByteArray) ++ mk (dg n)).data.toList = 109 :: dg n := by
  rw [ByteArray.data_append, Array.toList_append]; rfl
set_option maxRecDepth 100000 in
set_option maxHeartbeats 8000000 in
theorem many_walk (n : Int) (W : World) (hn : -9223372036854775808 ≤ n ∧ n ≤ 9223372036854775807) (hmm : ∃ m, W.cell? ⟨0, 0, none⟩ = some (.int .i64 m)) :
    Calls Tryd.prog 10 #[.int .i64 n] W fun e w' => e = .returned (.bool true) ∧ Below W.heap.size W w' := by
  have HA := Lib.hid (alive_any W hmm)
  have HMM := Lib.hid (fun w' hb => max_keep (w' := w') hmm hb)
  clear hmm
  by_cases h1 : n < 1
  · have d1 : decide (n < 1) = true := decide_eq_true h1
    go_enter Tryd.func10, Tryd.ntmps10
    go_wp2_with (go_at_call 11; refine HA.out.mono ?_; rintro e w5 ⟨rfl, h5⟩; have HB := Lib.hid h5; clear h5; simp only [])
    go_ret
    exact ⟨rfl, HB.out⟩
  have d1 : decide (n < 1) = false := decide_eq_false h1
  by_cases h2 : 13 < n
  · have d2 : decide (13 < n) = true := decide_eq_true h2
    go_enter Tryd.func10, Tryd.ntmps10
    go_wp2_with (go_at_call 11; refine HA.out.mono ?_; rintro e w5 ⟨rfl, h5⟩; have HB := Lib.hid h5; clear h5; simp only [])
    go_ret
    exact ⟨rfl, HB.out⟩
  have d2 : decide (13 < n) = false := decide_eq_false h2
  obtain ⟨N, hN⟩ : ∃ N : Nat, n = (N : Int) := ⟨n.toNat, by omega⟩
  subst hN
  have hN1 : 1 ≤ N := by omega
  have hN2 : N ≤ 13 := by omega
  clear h1 h2 hn
  have HDG := Lib.hid (fun k w (h : k < 100) => Digits_any k h w)
  go_enter Tryd.func10, Tryd.ntmps10
  go_wp2_with (go_at_call 11; refine HA.out.mono ?_; rintro e w5 ⟨rfl, h5⟩; have HB := Lib.hid h5; clear h5; simp only [])
  have HP0 := Lib.hid (Po.one w5 (⟨#[109, 48]⟩, ⟨#[]⟩))
  go_loopw [4, 5] (fun x i wx => ∃ (k : Nat) (v : Value) (L : Prs), v = x ∧ i = .int .i64 ((k + 1 : Nat) : Int) ∧ k ≤ N ∧ Hid (Po w5 wx v L) ∧ Hid (bsl L = manyL k) ∧ Hid (∀ p ∈ L, p.2.size ≤ 100)) (fun _ i _ => N + 1 - (intOf i).toNat)
  case atStart => exact ⟨0, _, _, rfl, rfl, Nat.zero_le _, HP0.out, rfl, fun p hp => by simp at hp; rw [hp]; decide⟩
  case round =>
    obtain ⟨k, v, L, rfl, rfl, hk, HP, HL, HS⟩ := hrel
    have hLl : L.length = k + 1 := by
      have := congrArg List.length HL.out
      simpa [bsl, manyL] using this
    by_cases hlt : k < N
    · have hld : decide (((k + 1 : Nat) : Int) ≤ (N : Int)) = true := decide_eq_true (by omega)
      have hld2 : decide ((k : Int) + 1 ≤ (N : Int)) = true := decide_eq_true (by omega)
      have b1 : IntKind.i64.wrap ((k : Int) + 1 - 1) = (k : Int) := by rw [IntWalk.i64_in _ (by omega)]; omega
      have b2 : IntKind.i64.wrap ((k : Int) + 1 + 1) = (k : Int) + 1 + 1 := IntWalk.i64_in _ (by omega)
      have b3 : IntKind.i64.wrap (k : Int) = (k : Int) := IntWalk.i64_in _ (by omega)
      have HD1 : Hid (∀ w, Calls Tryd.prog 18 #[.int .i64 (k : Int)] w fun e w' => e = .returned (.string (mk (dg k))) ∧ w' = w) := fun w => HDG.out k w (by omega)
      have HD2 : Hid (∀ w, Calls Tryd.prog 18 #[.int .i64 ((k : Int) + 1)] w fun e w' => e = .returned (.string (mk (dg (k + 1)))) ∧ w' = w) := fun w => HDG.out (k + 1) w (by omega)
      have hq1 := dg_size k
      have hq2 := dg_size (k + 1)
      have hrd := ref_data k
      have hnd := nm_data (k + 1)
      obtain ⟨D1, hD1⟩ : ∃ D, mk (dg k) = D := ⟨_, rfl⟩
      obtain ⟨D2, hD2⟩ : ∃ D, mk (dg (k + 1)) = D := ⟨_, rfl⟩
      rw [hD1] at HD1 hq1 hrd
      rw [hD2] at HD2 hq2 hnd
      have hz1 : ¬ (9223372036854775807 < 3 + D1.size) := by omega
      have hz2 : ¬ (9223372036854775807 < 3 + D1.size + 1) := by omega
      obtain ⟨K, hK⟩ : ∃ K : ByteArray, (⟨#[36, 40, 109]⟩ : ByteArray) ++ D1 ++ (⟨#[41]⟩ : ByteArray) = K := ⟨_, rfl⟩
      have hKs : K.size = 3 + D1.size + 1 := by rw [← hK, ByteArray.size_append, ByteArray.size_append]; rfl
      rw [hK] at hrd
      have hz3 : ¬ (9223372036854775807 < 1 + D2.size) := by omega
      have hz4 : ¬ (9223372036854775807 < K.size + K.size) := by omega
      obtain ⟨A, hA⟩ : ∃ A : ByteArray, (⟨#[109]⟩ : ByteArray) ++ D2 = A := ⟨_, rfl⟩
      rw [hA] at hnd
      obtain ⟨v8, w8, r8, h8, a8, c8, rfl⟩ := HP.out.push (by omega) (A, K ++ K)
      have HP8 : Hid (Po w5 w8 (.slice a8 (k + 1 + 1) c8) (L ++ [(A, K ++ K)])) := by rw [← hLl]; exact h8
      have HL8 : Hid (bsl (L ++ [(A, K ++ K)]) = manyL (k + 1)) := by
        rw [Hid, manyL_succ, ← HL.out]
        unfold bsl
        rw [List.map_append, List.map_singleton, hnd, ByteArray.data_append, Array.toList_append, hrd]
      have HS8 : Hid (∀ p ∈ L ++ [(A, K ++ K)], p.2.size ≤ 100) := fun p hp => by
        rcases List.mem_append.1 hp with hp | hp
        · exact HS.out p hp
        · simp at hp; rw [hp]; show (K ++ K).size ≤ 100; rw [ByteArray.size_append]; omega
      obtain ⟨a0, c0, hv⟩ : ∃ a c, v = .slice a L.length c := by
        rcases HP.out.own.2 with ⟨h1, h0⟩ | ⟨g, cap, cur, h1, _⟩
        · exact ⟨none, 0, by rw [h1, h0]⟩
        · exact ⟨_, cap, h1⟩
      subst hv
      clear hD1 hD2 h8 hrd hnd hKs hq1 hq2
      go_wp2_with (first
        | (go_at_call 18; with_reducible refine (HD1.out _).mono ?_; rintro e w6 ⟨rfl, h6⟩; obtain rfl := h6.symm; simp only [])
        | (go_at_call 18; with_reducible refine (HD2.out _).mono ?_; rintro e w6 ⟨rfl, h6⟩; obtain rfl := h6.symm; simp only [])
        | (at_builtin; refine wpList_run_append _ rfl _ _ 24 24 rfl _ _ rfl rfl r8 ?_))
      go_roundw
      case measure => simp [intOf] <;> omega
      case rel => exact ⟨k + 1, _, _, rfl, by go_num, by omega, HP8.out, HL8.out, HS8.out⟩
    · obtain rfl : k = N := by omega
      have hld : decide (((k + 1 : Nat) : Int) ≤ (k : Int)) = false := decide_eq_false (by omega)
      have hld2 : decide ((k : Int) + 1 ≤ (k : Int)) = false := decide_eq_false (by omega)
      have HD1 : Hid (∀ w, Calls Tryd.prog 18 #[.int .i64 (k : Int)] w fun e w' => e = .returned (.string (mk (dg k))) ∧ w' = w) := fun w => HDG.out k w (by omega)
      have hq1 := dg_size k
      have hrd := ref_data k
      obtain ⟨D1, hD1⟩ : ∃ D, mk (dg k) = D := ⟨_, rfl⟩
      rw [hD1] at HD1 hq1 hrd
      have hz1 : ¬ (9223372036854775807 < 3 + D1.size) := by omega
      have hz2 : ¬ (9223372036854775807 < 3 + D1.size + 1) := by omega
      obtain ⟨K, hK⟩ : ∃ K : ByteArray, (⟨#[36, 40, 109]⟩ : ByteArray) ++ D1 ++ (⟨#[41]⟩ : ByteArray) = K := ⟨_, rfl⟩
      rw [hK] at hrd
      have hBW := HB.out.trans (HP.out.old.mono HB.out.size)
      have HBW := Lib.hid hBW
      have hpv := HP.out.pv (by omega) (fun p hp => by have := HS.out p hp; omega)
      have hx := Expand_any v (.slice none 0 0) L [] (by simp) wr K hpv (PV.nil _ _) (HMM.out _ hBW)
      have hval := many_val k hN2
      rw [hrd, HL.out] at hx
      obtain ⟨⟨⟨r1, r2⟩, r3⟩, hr⟩ : ∃ r, expandF (manyL k) [] 40 [] (ref k) 0 = r := ⟨_, rfl⟩
      rw [hr] at hval
      rw [show expandF (manyL k) (bsl []) 40 [] (ref k) 0 = _ from hr] at hx
      dsimp only at hval
      injection hval with hv1 hv2
      subst hv1
      have HN := Lib.hid (fun z w => num_any z w)
      obtain ⟨a0, c0, hv⟩ : ∃ a c, v = .slice a (k + 1) c := by
        rcases HP.out.own.2 with ⟨h1, h0⟩ | ⟨g, cap, cur, h1, _⟩
        · omega
        · rw [hLl] at h1; exact ⟨_, cap, h1⟩
      subst hv
      have b1 : IntKind.i64.wrap ((k : Int) + 1) = (k : Int) + 1 := IntWalk.i64_in _ (by omega)
      have hsh := shl_all ⟨k, by omega⟩
      dsimp only at hsh
      clear hD1 hrd hq1 hr hpv hBW
      by_cases h12 : k ≤ 12
      · rw [if_pos h12] at hv2
        rw [decide_eq_true h12] at hsh
        subst hv2
        have HX := Lib.hid hx
        clear hx
        go_wp2_with (first
          | (go_at_call 18; refine (HD1.out _).mono ?_; rintro e w6 ⟨rfl, h6⟩; obtain rfl := h6.symm; simp only [])
          | (go_at_call 15; refine HX.out.mono ?_))
        rintro e w8 ⟨t, rfl, ht, hB8⟩
        obtain rfl : t = ⟨#[]⟩ := ba_ext ht
        have HB8 := Lib.hid (HBW.out.trans (hB8.mono HBW.out.size))
        clear ht hB8
        dsimp only
        go_wp2_with (go_at_call 16; refine (HN.out _ _).mono ?_; rintro e w10 ⟨rfl, h10⟩; obtain rfl := h10.symm; simp only [])
        go_ret
        exact ⟨rfl, HB8.out⟩
      · rw [if_neg h12] at hv2
        rw [decide_eq_false h12] at hsh
        subst hv2
        have HX := Lib.hid hx
        clear hx
        go_wp2_with (first
          | (go_at_call 18; refine (HD1.out _).mono ?_; rintro e w6 ⟨rfl, h6⟩; obtain rfl := h6.symm; simp only [])
          | (go_at_call 15; refine HX.out.mono ?_))
        rintro e w8 ⟨t, rfl, ht, hB8⟩
        obtain rfl : t = ⟨#[]⟩ := ba_ext ht
        have HB8 := Lib.hid (HBW.out.trans (hB8.mono HBW.out.size))
        clear ht hB8
        dsimp only
        go_wp2_with (go_at_call 16; refine (HN.out _ _).mono ?_; rintro e w10 ⟨rfl, h10⟩; obtain rfl := h10.symm; simp only [])
        go_ret
        exact ⟨rfl, HB8.out⟩
end Go.Proofs.YthbemfpoanmjcaaDoor
