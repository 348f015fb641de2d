import Derived.Test.YtjagnihkpgbjeaaDoorHK
namespace Go.Proofs.YtjagnihkpgbjeaaDoor
open Go.RowKit Go.Maps Go.ChangeMaps
set_option linter.unusedVariables false
theorem tn_cat (i : Nat) : (⟨#[116]⟩ : ByteArray) ++ nameB (dg i) = nameB (tn i) := nameB_app [116] (dg i)
theorem rsR_len (n back m : Nat) : (rsR n back m).length = m := by unfold rsR; simp
theorem ordR_len (n : Nat) : (ordR n 0).length = n := by unfold ordR; simp
theorem ordR_0 (n : Nat) (h : 0 < (ordR n 0).length) : (ordR n 0)[0] = tn (n - 1) := by unfold ordR; simp
theorem rsR_few (n back m : Nat) : ∀ r ∈ rsR n back m, r.ns.length ≤ 100 := by
  intro r hr
  unfold rsR at hr
  obtain ⟨i, _, rfl⟩ := List.mem_map.1 hr
  show (nsR n back i).length ≤ 100
  unfold nsR
  split
  · simp
  · split <;> simp
theorem rsR_norc (n back m : Nat) : ∀ r ∈ rsR n back m, r.rc = [] := by
  intro r hr
  unfold rsR at hr
  obtain ⟨i, _, rfl⟩ := List.mem_map.1 hr
  rfl
set_option maxRecDepth 100000 in
set_option maxHeartbeats 16000000 in
theorem rings_walk (n back : Int) (W : World) : Calls Tryd.prog 8 #[.int .i64 n, .int .i64 back] W fun e w' => e = .returned (.bool true) ∧ Below W.heap.size W w' := by
  have HAL := Lib.hid (alive29 W)
  by_cases h1 : n < 1
  · go_enter Tryd.func8, Tryd.ntmps8
    go_wp2_with (go_at_call 29; refine HAL.out.mono ?_; rintro e w1 ⟨rfl, h0⟩; have H0 := Lib.hid h0; clear h0; simp only [])
    go_ret
    exact ⟨rfl, H0.out⟩
  by_cases h2 : 60 < n
  · go_enter Tryd.func8, Tryd.ntmps8
    go_wp2_with (go_at_call 29; refine HAL.out.mono ?_; rintro e w1 ⟨rfl, h0⟩; have H0 := Lib.hid h0; clear h0; simp only [])
    go_ret
    exact ⟨rfl, H0.out⟩
  by_cases h3 : back < 0
  · go_enter Tryd.func8, Tryd.ntmps8
    go_wp2_with (go_at_call 29; refine HAL.out.mono ?_; rintro e w1 ⟨rfl, h0⟩; have H0 := Lib.hid h0; clear h0; simp only [])
    go_ret
    exact ⟨rfl, H0.out⟩
  by_cases h4 : n < back
  · go_enter Tryd.func8, Tryd.ntmps8
    go_wp2_with (go_at_call 29; refine HAL.out.mono ?_; rintro e w1 ⟨rfl, h0⟩; have H0 := Lib.hid h0; clear h0; simp only [])
    go_ret
    exact ⟨rfl, H0.out⟩
  obtain ⟨N, rfl⟩ : ∃ N : Nat, n = (N : Int) := ⟨n.toNat, by omega⟩
  obtain ⟨K, rfl⟩ : ∃ K : Nat, back = (K : Int) := ⟨back.toNat, by omega⟩
  have hN1 : 1 ≤ N := by omega
  have hN60 : N ≤ 60 := by omega
  have hK : K ≤ N := by omega
  go_enter Tryd.func8, Tryd.ntmps8
  go_wp2_with (go_at_call 29; refine HAL.out.mono ?_; rintro e w1 ⟨rfl, h0⟩; have H0 := Lib.hid h0; clear h0; simp only [])
  obtain ⟨w0, hw0⟩ : ∃ w0, w1.alloc (.cells #[.slice none 0 0, .slice none 0 0] 45) = w0 := ⟨_, rfl⟩
  have hs0 : w0.heap.size = w1.heap.size + 1 := by rw [← hw0, size_alloc]
  have hb0 : Below w1.heap.size w1 w0 := hw0 ▸ below_alloc _ _
  have hz4 : w0.heap[w1.heap.size]? = some (.cells [.slice none 0 0, .slice none 0 0].toArray 45 (0, 0)) := by rw [← hw0]; exact heap_alloc_new _ _
  have HST : Hid (Gr w0 w0 w1.heap.size (.slice none 0 0) (rsR N K 0)) := ⟨hz4, ⟨[], rfl, World.ownsRow_nil _ _ _ _, fun i h => absurd h (by simp [rsR])⟩, Only.refl _ _, by omega⟩
  have HB0 := Lib.hid hb0
  have HS0 := Lib.hid hs0
  rw [hw0]
  clear hz4 hb0 hs0 hw0
  obtain ⟨b6, hb6⟩ : ∃ b6, w1.heap.size = b6 := ⟨_, rfl⟩
  have HB6 := Lib.hid hb6
  rw [hb6] at HST HS0
  simp only [hb6]
  clear hb6
  go_loopw [7] (fun i wr => ∃ k : Nat, k ≤ N ∧ i = .int .i64 k ∧ Hid (∃ v, Gr w0 wr b6 v (rsR N K k))) (fun i _ => N - (intOf i).toNat)
  case atStart => exact ⟨0, Nat.zero_le _, rfl, ⟨_, HST.out⟩⟩
  case round =>
    obtain ⟨k, hk, rfl, HL0⟩ := hrel
    obtain ⟨v, hL⟩ := HL0.out
    have HL := Lib.hid hL
    have hq1 : wr.cell? ⟨b6, 1, none⟩ = some v := cell_of hL.blk 1
    have hlb : b6 < wr.heap.size := (Array.getElem?_eq_some_iff.1 hL.blk).1
    clear HST HL0 hL
    by_cases hlt : k < N
    · have hltI : (k : Int) < (N : Int) := by omega
      have hk0 : (0 : Int) ≤ (k : Int) := by omega
      have hkb : (k : Int) ≤ 60 := by omega
      by_cases hk1 : k + 1 < N
      · have HN0 := Lib.hid (fun w => Digits_any (k) (by omega) w)
        have hctN0 := tn_cat (k)
        obtain ⟨D0, hqD0⟩ : ∃ D, nameB (dg (k)) = D := ⟨_, rfl⟩
        have hsD0 : D0.size ≤ 2 := by rw [← hqD0, nameB_size]; exact dg_len _
        rw [hqD0] at HN0 hctN0
        obtain ⟨T0, hqT0⟩ : ∃ T, nameB (tn (k)) = T := ⟨_, rfl⟩
        rw [hqT0] at hctN0
        have hzN0 : ¬ (9223372036854775807 < 1 + D0.size) := by omega
        have HQT0 := Lib.hid hqT0
        clear hqD0 hqT0 hsD0
        have HN1 : Hid (∀ w : World, Calls Tryd.prog 26 #[.int .i64 ((k : Int) + 1)] w fun e w' => e = .returned (.string (nameB (dg (k + 1)))) ∧ w' = w) := fun w => Digits_any (k + 1) (by omega) w
        have hctN1 := tn_cat (k + 1)
        obtain ⟨D1, hqD1⟩ : ∃ D, nameB (dg (k + 1)) = D := ⟨_, rfl⟩
        have hsD1 : D1.size ≤ 2 := by rw [← hqD1, nameB_size]; exact dg_len _
        rw [hqD1] at HN1 hctN1
        obtain ⟨T1, hqT1⟩ : ∃ T, nameB (tn (k + 1)) = T := ⟨_, rfl⟩
        rw [hqT1] at hctN1
        have hzN1 : ¬ (9223372036854775807 < 1 + D1.size) := by omega
        have HQT1 := Lib.hid hqT1
        clear hqD1 hqT1 hsD1
        have hns : nsR N K k = [tn (k + 1)] := by unfold nsR; rw [if_pos hk1]
        have HSUC : Hid (rsR N K (k + 1) = rsR N K k ++ [⟨[tn k], [tn (k + 1)], []⟩]) := by rw [Hid, rsR_succ, hns]
        have hq1z : (((wr.alloc (.cells #[.string T0] 9)).alloc (.cells #[.slice (some ⟨wr.heap.size, 0, none⟩) 1 1, .slice (some ⟨wr.heap.size + 1 + 1, 0, none⟩) 1 1, .slice none 0 0] 48)).alloc (.cells #[.string T1] 9)).cell? ⟨b6, 1, none⟩ = some v := ((below_trans (below_alloc _ _) (below_trans (below_alloc _ _) (below_alloc _ _)) : Below wr.heap.size wr _).cell (p := ⟨b6, 1, none⟩) hlb).trans hq1
        obtain ⟨wz, hwz⟩ : ∃ wz, ((wr.alloc (.cells #[.string T0] 9)).alloc (.cells #[.slice (some ⟨wr.heap.size, 0, none⟩) 1 1, .slice (some ⟨wr.heap.size + 1 + 1, 0, none⟩) 1 1, .slice none 0 0] 48)).alloc (.cells #[.string T1] 9) = wz := ⟨_, rfl⟩
        have hbz : Below wr.heap.size wr wz := hwz ▸ below_trans (below_alloc _ _) (below_trans (below_alloc _ _) (below_alloc _ _))
        have hszz : wz.heap.size = wr.heap.size + 1 + 1 + 1 := by rw [← hwz]; simp only [size_alloc]
        have hr3 : R3 wz (.slice (some ⟨wr.heap.size, 0, none⟩) 1 1, .slice (some ⟨wr.heap.size + 1 + 1, 0, none⟩) 1 1, .slice none 0 0) ⟨[tn k], [tn (k + 1)], []⟩ := by
          rw [← hwz, ← HQT0.out, ← HQT1.out]
          exact ⟨((SB.one wr (tn k)).below (below_trans (below_alloc _ _) (below_alloc _ _))), by
            have := SB.one ((wr.alloc (.cells #[.string (nameB (tn k))] 9)).alloc (.cells #[.slice (some ⟨wr.heap.size, 0, none⟩) 1 1, .slice (some ⟨wr.heap.size + 1 + 1, 0, none⟩) 1 1, .slice none 0 0] 48)) (tn (k + 1))
            simp only [size_alloc] at this
            exact this, SB.nil _⟩
        obtain ⟨v', w3, hrun, hb3, hf3, ⟨gv, cv, rfl⟩, hgr⟩ := (HL.out.below hbz).push k (rsR_len N K k) (by omega) _ _ _ _ hr3
        rw [← hwz] at hrun
        rw [hwz, hszz, ← hwz] at hrun
        have HRUN := Lib.hid hrun
        have HGR := Lib.hid hgr
        clear hns hr3 hrun hgr hszz hbz hwz
        have hk1I : (k : Int) + 1 < (N : Int) := by omega
        go_wp2_with (first
          | (go_at_call 26; ((with_reducible refine (HN1.out _).mono ?_)); rintro e w2 ⟨rfl, h2⟩; obtain rfl := h2.symm; simp only [])
          | (go_at_call 26; ((with_reducible refine (HN0.out _).mono ?_)); rintro e w2 ⟨rfl, h2⟩; obtain rfl := h2.symm; simp only [])
          | (at_builtin; refine wpList_run_append _ rfl _ _ 43 43 rfl _ _ rfl rfl HRUN.out ?_))
        go_roundw
        case measure => simp [intOf]; omega
        case rel => exact ⟨k + 1, by omega, by go_num, ⟨_, by rw [HSUC.out]; exact HGR.out⟩⟩
      by_cases hkK : K < N
      · have HN0 := Lib.hid (fun w => Digits_any (k) (by omega) w)
        have hctN0 := tn_cat (k)
        obtain ⟨D0, hqD0⟩ : ∃ D, nameB (dg (k)) = D := ⟨_, rfl⟩
        have hsD0 : D0.size ≤ 2 := by rw [← hqD0, nameB_size]; exact dg_len _
        rw [hqD0] at HN0 hctN0
        obtain ⟨T0, hqT0⟩ : ∃ T, nameB (tn (k)) = T := ⟨_, rfl⟩
        rw [hqT0] at hctN0
        have hzN0 : ¬ (9223372036854775807 < 1 + D0.size) := by omega
        have HQT0 := Lib.hid hqT0
        clear hqD0 hqT0 hsD0
        have HNK := Lib.hid (fun w => Digits_any (K) (by omega) w)
        have hctNK := tn_cat (K)
        obtain ⟨DK, hqDK⟩ : ∃ D, nameB (dg (K)) = D := ⟨_, rfl⟩
        have hsDK : DK.size ≤ 2 := by rw [← hqDK, nameB_size]; exact dg_len _
        rw [hqDK] at HNK hctNK
        obtain ⟨TK, hqTK⟩ : ∃ T, nameB (tn (K)) = T := ⟨_, rfl⟩
        rw [hqTK] at hctNK
        have hzNK : ¬ (9223372036854775807 < 1 + DK.size) := by omega
        have HQTK := Lib.hid hqTK
        clear hqDK hqTK hsDK
        have hns : nsR N K k = [tn K] := by unfold nsR; rw [if_neg hk1, if_pos hkK]
        have HSUC : Hid (rsR N K (k + 1) = rsR N K k ++ [⟨[tn k], [tn K], []⟩]) := by rw [Hid, rsR_succ, hns]
        have hq1z : (((wr.alloc (.cells #[.string T0] 9)).alloc (.cells #[.slice (some ⟨wr.heap.size, 0, none⟩) 1 1, .slice (some ⟨wr.heap.size + 1 + 1, 0, none⟩) 1 1, .slice none 0 0] 48)).alloc (.cells #[.string TK] 9)).cell? ⟨b6, 1, none⟩ = some v := ((below_trans (below_alloc _ _) (below_trans (below_alloc _ _) (below_alloc _ _)) : Below wr.heap.size wr _).cell (p := ⟨b6, 1, none⟩) hlb).trans hq1
        obtain ⟨wz, hwz⟩ : ∃ wz, ((wr.alloc (.cells #[.string T0] 9)).alloc (.cells #[.slice (some ⟨wr.heap.size, 0, none⟩) 1 1, .slice (some ⟨wr.heap.size + 1 + 1, 0, none⟩) 1 1, .slice none 0 0] 48)).alloc (.cells #[.string TK] 9) = wz := ⟨_, rfl⟩
        have hbz : Below wr.heap.size wr wz := hwz ▸ below_trans (below_alloc _ _) (below_trans (below_alloc _ _) (below_alloc _ _))
        have hszz : wz.heap.size = wr.heap.size + 1 + 1 + 1 := by rw [← hwz]; simp only [size_alloc]
        have hr3 : R3 wz (.slice (some ⟨wr.heap.size, 0, none⟩) 1 1, .slice (some ⟨wr.heap.size + 1 + 1, 0, none⟩) 1 1, .slice none 0 0) ⟨[tn k], [tn K], []⟩ := by
          rw [← hwz, ← HQT0.out, ← HQTK.out]
          exact ⟨((SB.one wr (tn k)).below (below_trans (below_alloc _ _) (below_alloc _ _))), by
            have := SB.one ((wr.alloc (.cells #[.string (nameB (tn k))] 9)).alloc (.cells #[.slice (some ⟨wr.heap.size, 0, none⟩) 1 1, .slice (some ⟨wr.heap.size + 1 + 1, 0, none⟩) 1 1, .slice none 0 0] 48)) (tn (K))
            simp only [size_alloc] at this
            exact this, SB.nil _⟩
        obtain ⟨v', w3, hrun, hb3, hf3, ⟨gv, cv, rfl⟩, hgr⟩ := (HL.out.below hbz).push k (rsR_len N K k) (by omega) _ _ _ _ hr3
        rw [← hwz] at hrun
        rw [hwz, hszz, ← hwz] at hrun
        have HRUN := Lib.hid hrun
        have HGR := Lib.hid hgr
        clear hns hr3 hrun hgr hszz hbz hwz
        have hk1I : ¬ (k : Int) + 1 < (N : Int) := by omega
        have hKI : (K : Int) < (N : Int) := by omega
        go_wp2_with (first
          | (go_at_call 26; ((with_reducible refine (HNK.out _).mono ?_)); rintro e w2 ⟨rfl, h2⟩; obtain rfl := h2.symm; simp only [])
          | (go_at_call 26; ((with_reducible refine (HN0.out _).mono ?_)); rintro e w2 ⟨rfl, h2⟩; obtain rfl := h2.symm; simp only [])
          | (at_builtin; refine wpList_run_append _ rfl _ _ 43 43 rfl _ _ rfl rfl HRUN.out ?_))
        go_roundw
        case measure => simp [intOf]; omega
        case rel => exact ⟨k + 1, by omega, by go_num, ⟨_, by rw [HSUC.out]; exact HGR.out⟩⟩
      · have HN0 := Lib.hid (fun w => Digits_any (k) (by omega) w)
        have hctN0 := tn_cat (k)
        obtain ⟨D0, hqD0⟩ : ∃ D, nameB (dg (k)) = D := ⟨_, rfl⟩
        have hsD0 : D0.size ≤ 2 := by rw [← hqD0, nameB_size]; exact dg_len _
        rw [hqD0] at HN0 hctN0
        obtain ⟨T0, hqT0⟩ : ∃ T, nameB (tn (k)) = T := ⟨_, rfl⟩
        rw [hqT0] at hctN0
        have hzN0 : ¬ (9223372036854775807 < 1 + D0.size) := by omega
        have HQT0 := Lib.hid hqT0
        clear hqD0 hqT0 hsD0
        have hns : nsR N K k = [] := by unfold nsR; rw [if_neg hk1, if_neg hkK]
        have HSUC : Hid (rsR N K (k + 1) = rsR N K k ++ [⟨[tn k], [], []⟩]) := by rw [Hid, rsR_succ, hns]
        have hq1z : ((wr.alloc (.cells #[.string T0] 9)).alloc (.cells #[.slice (some ⟨wr.heap.size, 0, none⟩) 1 1, .slice none 0 0, .slice none 0 0] 48)).cell? ⟨b6, 1, none⟩ = some v := ((below_trans (below_alloc _ _) (below_alloc _ _) : Below wr.heap.size wr _).cell (p := ⟨b6, 1, none⟩) hlb).trans hq1
        obtain ⟨wz, hwz⟩ : ∃ wz, (wr.alloc (.cells #[.string T0] 9)).alloc (.cells #[.slice (some ⟨wr.heap.size, 0, none⟩) 1 1, .slice none 0 0, .slice none 0 0] 48) = wz := ⟨_, rfl⟩
        have hbz : Below wr.heap.size wr wz := hwz ▸ below_trans (below_alloc _ _) (below_alloc _ _)
        have hszz : wz.heap.size = wr.heap.size + 1 + 1 := by rw [← hwz]; simp only [size_alloc]
        have hr3 : R3 wz (.slice (some ⟨wr.heap.size, 0, none⟩) 1 1, .slice none 0 0, .slice none 0 0) ⟨[tn k], [], []⟩ := by
          rw [← hwz, ← HQT0.out]
          exact ⟨(SB.one wr (tn k)).below (below_alloc _ _), SB.nil _, SB.nil _⟩
        obtain ⟨v', w3, hrun, hb3, hf3, ⟨gv, cv, rfl⟩, hgr⟩ := (HL.out.below hbz).push k (rsR_len N K k) (by omega) _ _ _ _ hr3
        rw [← hwz] at hrun
        rw [hwz, hszz, ← hwz] at hrun
        have HRUN := Lib.hid hrun
        have HGR := Lib.hid hgr
        clear hns hr3 hrun hgr hszz hbz hwz
        have hk1I : ¬ (k : Int) + 1 < (N : Int) := by omega
        have hKI : ¬ (K : Int) < (N : Int) := by omega
        go_wp2_with (first
          | (go_at_call 26; ((with_reducible refine (HN0.out _).mono ?_)); rintro e w2 ⟨rfl, h2⟩; obtain rfl := h2.symm; simp only [])
          | (at_builtin; refine wpList_run_append _ rfl _ _ 43 43 rfl _ _ rfl rfl HRUN.out ?_))
        go_roundw
        case measure => simp [intOf]; omega
        case rel => exact ⟨k + 1, by omega, by go_num, ⟨_, by rw [HSUC.out]; exact HGR.out⟩⟩
    · have hltI : ¬ (k : Int) < (N : Int) := by omega
      have hkN : N = k := by omega
      subst hkN
      have hrv := HL.out.rsv
      obtain ⟨ra, rc, hvf⟩ := hrv.len
      rw [rsR_len] at hvf
      subst hvf
      have hq0 : wr.cell? ⟨b6, 0, none⟩ = some (.slice none 0 0) := cell_of HL.out.blk 0
      have HCC : Hid (∀ w' : World, Below wr.heap.size wr w' → w'.cell? ⟨b6, 0, none⟩ = some (.slice none 0 0) ∧ w'.cell? ⟨b6, 1, none⟩ = some (.slice ra N rc)) := fun w' hb => ⟨(hb.cell (p := ⟨b6, 0, none⟩) hlb).trans hq0, (hb.cell (p := ⟨b6, 1, none⟩) hlb).trans hq1⟩
      have HNEW := Lib.hid (fun w => New_sx 1 1 (by omega) (by omega) (by omega) (by omega) w)
      have HPR0 : Hid (Below wr.heap.size wr wr) := Below.refl _ _
      have HOLD : Hid (Below W.heap.size W wr) := by
        have e3 := HB6.out
        have e1 := H0.out.size
        exact below_trans H0.out ((HB0.out.trans (HL.out.old.below (fun i hi => by rw [hi]; omega) HB0.out.size)))
      clear hrv
      have HDL : Hid (∀ w : World, Calls Tryd.prog 26 #[.int .i64 ((N : Int) - 1)] w fun e w' => e = .returned (.string (nameB (dg (N - 1)))) ∧ w' = w) := fun w => by
        have := Digits_any (N - 1) (by omega) w
        rw [show ((N - 1 : Nat) : Int) = (N : Int) - 1 by omega] at this
        exact this
      have hctL := tn_cat (N - 1)
      obtain ⟨DL, hqDL⟩ : ∃ D, nameB (dg (N - 1)) = D := ⟨_, rfl⟩
      have hsDL : DL.size ≤ 2 := by rw [← hqDL, nameB_size]; exact dg_len _
      rw [hqDL] at HDL hctL
      obtain ⟨TL, hqTL⟩ : ∃ T, nameB (tn (N - 1)) = T := ⟨_, rfl⟩
      rw [hqTL] at hctL
      have hzL : ¬ (9223372036854775807 < 1 + DL.size) := by omega
      have HQTL := Lib.hid hqTL
      clear hqDL hqTL hsDL
      by_cases hKN : K < N
      · have hKNI : (K : Int) < (N : Int) := by omega
        obtain ⟨sf, hsf⟩ := chain_ring hN60 hKN N 0 (N + 1) s00 (by omega) (Nat.le_refl _) (chn0 N)
        rw [show chL N K 0 = [[116, 48]] by unfold chL; rw [if_pos (by omega)]; rfl] at hsf
        obtain ⟨su, hsu⟩ := rings_u N K hN60
        have hgr := HL.out
        have HO1 : Hid (∀ (B : Nat) (w1 : World) (f : Nat) (tv : Value), Sx B w1 0 f ⟨1, 1, 0, 0, 0⟩ newT → Below wr.heap.size wr w1 → SlS w1 tv [[116, 48]] → Calls Tryd.prog 30 #[.agg #[.slice none 0 0, .slice ra N rc], .pointer (some ⟨f, 0, none⟩), .string ⟨#[47]⟩, tv] w1 fun e w' => ∃ va vc, e = .returned (.tuple #[.slice va 0 vc, .int .i64 18]) ∧ SlS w' (.slice va 0 vc) [] ∧ Below w1.heap.size w1 w') := fun B w1 f tv hs hb ht => by
          refine (Order_any (am := none) (nm := 0) (cm := 0) (gctx hs (hgr.rsv.below hb) (by rw [rsR_len]; omega) (rsR_few N K N) (rsR_norc N K N)) tv [[116, 48]] ht (by simp) (N + 1) 18 sf hsf).mono ?_
          rintro e w' ⟨v, rfl, hv, hb'⟩
          rw [if_neg (by decide)] at hv
          obtain ⟨va, vc, rfl⟩ := hv.len
          
          exact ⟨va, vc, rfl, hv, hb'⟩
        have HO2 : Hid (∀ (B : Nat) (w1 : World) (f : Nat) (tv : Value), Sx B w1 0 f ⟨1, 1, 0, 0, 0⟩ newT → Below wr.heap.size wr w1 → SlS w1 tv [[117]] → Calls Tryd.prog 30 #[.agg #[.slice none 0 0, .slice ra N rc], .pointer (some ⟨f, 0, none⟩), .string ⟨#[47]⟩, tv] w1 fun e w' => ∃ va, e = .returned (.tuple #[va, .int .i64 19]) ∧ Below w1.heap.size w1 w') := fun B w1 f tv hs hb ht => by
          refine (Order_any (am := none) (nm := 0) (cm := 0) (gctx hs (hgr.rsv.below hb) (by rw [rsR_len]; omega) (rsR_few N K N) (rsR_norc N K N)) tv [[117]] ht (by simp) 1 19 su hsu).mono ?_
          rintro e w' ⟨v, rfl, hv, hb'⟩
          exact ⟨v, rfl, hb'⟩
        clear hsf hsu hgr
        go_wp2_with fail
        go_region_held3 (fun w' => w'.cell? ⟨b6, 0, none⟩ = some (.slice none 0 0) ∧ w'.cell? ⟨b6, 1, none⟩ = some (.slice ra N rc)) (first | exact HCC.out _ hbw | exact HCC.out _ hbv | exact HCC.out _ (HPR0.out.drew) | exact HCC.out _ (below_trans HPR0.out.drew hbq) | exact HCC.out _ (below_trans HPR0.out.drew (below_alloc _ _)) | exact HCC.out _ (below_trans (below_trans HPR0.out (below_alloc _ _)).drew hbq) | exact HCC.out _ (below_trans HPR0.out (below_alloc _ _)).drew | exact HCC.out _ (below_trans HPR0.out (below_alloc _ _)) | exact HCC.out _ HPR0.out | exact HCC.out _ (below_trans HPR0.out.drew (below_trans hbq (below_alloc _ _)))) (first
          | (go_at_call 13; ((with_reducible refine (HNEW.out _).mono ?_)); rintro e wq ⟨f, rfl, hsx, hbq⟩)
          | (go_at_call 30; ((with_reducible refine (HO1.out _ _ _ _ (hsx.below (below_alloc _ _)) (below_trans HPR0.out.drew (below_trans hbq (below_alloc _ _))) (sl_new _ [116, 48])).mono ?_)); rintro e w3 ⟨va, vc, rfl, hv3, hb3⟩; have hbw : Below wr.heap.size wr w3 := below_trans (below_trans HPR0.out.drew (below_trans hbq (below_alloc _ _))) hb3)
          | (go_at_call 30; ((with_reducible refine (HO1.out _ _ _ _ hsx (below_trans (below_trans HPR0.out (below_alloc _ _)).drew hbq) (((sl_new _ [116, 48]).below (Below.refl _ _).drew).below hbq)).mono ?_)); rintro e w3 ⟨va, vc, rfl, hv3, hb3⟩; have hbw : Below wr.heap.size wr w3 := below_trans (below_trans (below_trans HPR0.out (below_alloc _ _)).drew hbq) hb3))
        all_goals
          have HB3 : Hid (Below wr.heap.size wr w3) := hbw
          have HV3 := Lib.hid hv3
          clear hbw hv3 hb3 hbq hsx
          have HPR3 : Hid (Below w3.heap.size w3 w3) := Below.refl _ _
          have HO3 := Lib.hid (fun (B : Nat) (w1 : World) (f : Nat) (tv : Value) (hs : Sx B w1 0 f ⟨1, 1, 0, 0, 0⟩ newT) (hb : Below w3.heap.size w3 w1) (ht : SlS w1 tv [[117]]) => HO2.out B w1 f tv hs (below_trans HB3.out hb) ht)
          have HC3 : Hid (∀ w' : World, Below w3.heap.size w3 w' → w'.cell? ⟨b6, 0, none⟩ = some (.slice none 0 0) ∧ w'.cell? ⟨b6, 1, none⟩ = some (.slice ra N rc)) := fun w' hb => HCC.out w' (below_trans HB3.out hb)
          clear HO1 HO2 HCC
          go_wp2_with fail
          go_region_held3 (fun w' => w'.cell? ⟨b6, 0, none⟩ = some (.slice none 0 0) ∧ w'.cell? ⟨b6, 1, none⟩ = some (.slice ra N rc)) (first | exact HC3.out _ hbw | exact HC3.out _ hbv | exact HC3.out _ (HPR3.out.drew) | exact HC3.out _ (below_trans HPR3.out.drew hbq) | exact HC3.out _ (below_trans HPR3.out.drew (below_alloc _ _)) | exact HC3.out _ (below_trans (below_trans HPR3.out (below_alloc _ _)).drew hbq) | exact HC3.out _ (below_trans HPR3.out (below_alloc _ _)).drew | exact HC3.out _ (below_trans HPR3.out (below_alloc _ _)) | exact HC3.out _ HPR3.out | exact HC3.out _ (below_trans HPR3.out.drew (below_trans hbq (below_alloc _ _)))) (first
            | (go_at_call 13; ((with_reducible refine (HNEW.out _).mono ?_)); rintro e wq ⟨f, rfl, hsx, hbq⟩)
            | (go_at_call 30; ((with_reducible refine (HO3.out _ _ _ _ (hsx.below (below_alloc _ _)) (below_trans HPR3.out.drew (below_trans hbq (below_alloc _ _))) (sl_new _ [117])).mono ?_)); rintro e w4 ⟨va4, rfl, hb4⟩; have hbv : Below w3.heap.size w3 w4 := below_trans (below_trans HPR3.out.drew (below_trans hbq (below_alloc _ _))) hb4)
            | (go_at_call 30; ((with_reducible refine (HO3.out _ _ _ _ hsx (below_trans (below_trans HPR3.out (below_alloc _ _)).drew hbq) (((sl_new _ [117]).below (Below.refl _ _).drew).below hbq)).mono ?_)); rintro e w4 ⟨va4, rfl, hb4⟩; have hbv : Below w3.heap.size w3 w4 := below_trans (below_trans (below_trans HPR3.out (below_alloc _ _)).drew hbq) hb4))
          all_goals
            have HB4 : Hid (Below wr.heap.size wr w4) := below_trans HB3.out hbv
            clear hbv hb4 hbq hsx
            go_wp2_with (go_at_call 31; refine (num31 _ _).mono ?_; rintro e w5 ⟨rfl, h5⟩; obtain rfl := h5.symm; simp only [])
            go_ret
            exact ⟨rfl, below_trans HOLD.out HB4.out⟩
      · obtain rfl : K = N := by omega
        have hKNI : ¬ (K : Int) < (K : Int) := by omega
        obtain ⟨sf, hsf, hord, _⟩ := chain_ok hN60 K 0 (K + 1) s00 (by omega) (Nat.le_refl _) (chn0 K)
        rw [show chL K K 0 = [[116, 48]] by unfold chL; rw [if_pos (by omega)]; rfl] at hsf
        have hord2 : sf.order = ordR K 0 := by rw [hord]; rfl
        obtain ⟨su, hsu⟩ := rings_u K K hN60
        have hgr := HL.out
        have HO1 : Hid (∀ (B : Nat) (w1 : World) (f : Nat) (tv : Value), Sx B w1 0 f ⟨1, 1, 0, 0, 0⟩ newT → Below wr.heap.size wr w1 → SlS w1 tv [[116, 48]] → Calls Tryd.prog 30 #[.agg #[.slice none 0 0, .slice ra K rc], .pointer (some ⟨f, 0, none⟩), .string ⟨#[47]⟩, tv] w1 fun e w' => ∃ va vc, e = .returned (.tuple #[.slice va K vc, .int .i64 0]) ∧ SlS w' (.slice va K vc) (ordR K 0) ∧ Below w1.heap.size w1 w') := fun B w1 f tv hs hb ht => by
          refine (Order_any (am := none) (nm := 0) (cm := 0) (gctx hs (hgr.rsv.below hb) (by rw [rsR_len]; omega) (rsR_few K K K) (rsR_norc K K K)) tv [[116, 48]] ht (by simp) (K + 1) 0 sf hsf).mono ?_
          rintro e w' ⟨v, rfl, hv, hb'⟩
          rw [if_pos rfl, hord2] at hv
          obtain ⟨va, vc, rfl⟩ := hv.len
          rw [show (ordR K 0).length = K by unfold ordR; simp] at hv ⊢
          exact ⟨va, vc, rfl, hv, hb'⟩
        have HO2 : Hid (∀ (B : Nat) (w1 : World) (f : Nat) (tv : Value), Sx B w1 0 f ⟨1, 1, 0, 0, 0⟩ newT → Below wr.heap.size wr w1 → SlS w1 tv [[117]] → Calls Tryd.prog 30 #[.agg #[.slice none 0 0, .slice ra K rc], .pointer (some ⟨f, 0, none⟩), .string ⟨#[47]⟩, tv] w1 fun e w' => ∃ va, e = .returned (.tuple #[va, .int .i64 19]) ∧ Below w1.heap.size w1 w') := fun B w1 f tv hs hb ht => by
          refine (Order_any (am := none) (nm := 0) (cm := 0) (gctx hs (hgr.rsv.below hb) (by rw [rsR_len]; omega) (rsR_few K K K) (rsR_norc K K K)) tv [[117]] ht (by simp) 1 19 su hsu).mono ?_
          rintro e w' ⟨v, rfl, hv, hb'⟩
          exact ⟨v, rfl, hb'⟩
        clear hsf hsu hgr hord hord2
        go_wp2_with fail
        go_region_held3 (fun w' => w'.cell? ⟨b6, 0, none⟩ = some (.slice none 0 0) ∧ w'.cell? ⟨b6, 1, none⟩ = some (.slice ra K rc)) (first | exact HCC.out _ hbw | exact HCC.out _ hbv | exact HCC.out _ (HPR0.out.drew) | exact HCC.out _ (below_trans HPR0.out.drew hbq) | exact HCC.out _ (below_trans HPR0.out.drew (below_alloc _ _)) | exact HCC.out _ (below_trans (below_trans HPR0.out (below_alloc _ _)).drew hbq) | exact HCC.out _ (below_trans HPR0.out (below_alloc _ _)).drew | exact HCC.out _ (below_trans HPR0.out (below_alloc _ _)) | exact HCC.out _ HPR0.out | exact HCC.out _ (below_trans HPR0.out.drew (below_trans hbq (below_alloc _ _)))) (first
          | (go_at_call 13; ((with_reducible refine (HNEW.out _).mono ?_)); rintro e wq ⟨f, rfl, hsx, hbq⟩)
          | (go_at_call 30; ((with_reducible refine (HO1.out _ _ _ _ (hsx.below (below_alloc _ _)) (below_trans HPR0.out.drew (below_trans hbq (below_alloc _ _))) (sl_new _ [116, 48])).mono ?_)); rintro e w3 ⟨va, vc, rfl, hv3, hb3⟩; have hbw : Below wr.heap.size wr w3 := below_trans (below_trans HPR0.out.drew (below_trans hbq (below_alloc _ _))) hb3)
          | (go_at_call 30; ((with_reducible refine (HO1.out _ _ _ _ hsx (below_trans (below_trans HPR0.out (below_alloc _ _)).drew hbq) (((sl_new _ [116, 48]).below (Below.refl _ _).drew).below hbq)).mono ?_)); rintro e w3 ⟨va, vc, rfl, hv3, hb3⟩; have hbw : Below wr.heap.size wr w3 := below_trans (below_trans (below_trans HPR0.out (below_alloc _ _)).drew hbq) hb3))
        all_goals
          have HB3 : Hid (Below wr.heap.size wr w3) := hbw
          have HV3 := Lib.hid hv3
          clear hbw hv3 hb3 hbq hsx
          have HPR3 : Hid (Below w3.heap.size w3 w3) := Below.refl _ _
          have HO3 := Lib.hid (fun (B : Nat) (w1 : World) (f : Nat) (tv : Value) (hs : Sx B w1 0 f ⟨1, 1, 0, 0, 0⟩ newT) (hb : Below w3.heap.size w3 w1) (ht : SlS w1 tv [[117]]) => HO2.out B w1 f tv hs (below_trans HB3.out hb) ht)
          have HC3 : Hid (∀ w' : World, Below w3.heap.size w3 w' → w'.cell? ⟨b6, 0, none⟩ = some (.slice none 0 0) ∧ w'.cell? ⟨b6, 1, none⟩ = some (.slice ra K rc)) := fun w' hb => HCC.out w' (below_trans HB3.out hb)
          clear HO1 HO2 HCC
          go_wp2_with fail
          go_region_held3 (fun w' => w'.cell? ⟨b6, 0, none⟩ = some (.slice none 0 0) ∧ w'.cell? ⟨b6, 1, none⟩ = some (.slice ra K rc)) (first | exact HC3.out _ hbw | exact HC3.out _ hbv | exact HC3.out _ (HPR3.out.drew) | exact HC3.out _ (below_trans HPR3.out.drew hbq) | exact HC3.out _ (below_trans HPR3.out.drew (below_alloc _ _)) | exact HC3.out _ (below_trans (below_trans HPR3.out (below_alloc _ _)).drew hbq) | exact HC3.out _ (below_trans HPR3.out (below_alloc _ _)).drew | exact HC3.out _ (below_trans HPR3.out (below_alloc _ _)) | exact HC3.out _ HPR3.out | exact HC3.out _ (below_trans HPR3.out.drew (below_trans hbq (below_alloc _ _)))) (first
            | (go_at_call 13; ((with_reducible refine (HNEW.out _).mono ?_)); rintro e wq ⟨f, rfl, hsx, hbq⟩)
            | (go_at_call 30; ((with_reducible refine (HO3.out _ _ _ _ (hsx.below (below_alloc _ _)) (below_trans HPR3.out.drew (below_trans hbq (below_alloc _ _))) (sl_new _ [117])).mono ?_)); rintro e w4 ⟨va4, rfl, hb4⟩; have hbv : Below w3.heap.size w3 w4 := below_trans (below_trans HPR3.out.drew (below_trans hbq (below_alloc _ _))) hb4)
            | (go_at_call 30; ((with_reducible refine (HO3.out _ _ _ _ hsx (below_trans (below_trans HPR3.out (below_alloc _ _)).drew hbq) (((sl_new _ [117]).below (Below.refl _ _).drew).below hbq)).mono ?_)); rintro e w4 ⟨va4, rfl, hb4⟩; have hbv : Below w3.heap.size w3 w4 := below_trans (below_trans (below_trans HPR3.out (below_alloc _ _)).drew hbq) hb4))
          all_goals
            have HB4 : Hid (Below wr.heap.size wr w4) := below_trans HB3.out hbv
            have hv4 : SlS w4 (.slice va K vc) (ordR K 0) := HV3.out.below hbv
            clear hbv hb4 hbq hsx
            obtain ⟨g, off, rfl, _, hc⟩ := strs_sl hv4 (by rw [ordR_len]; omega)
            have hck := hc 0 (by rw [ordR_len]; omega)
            have hKp : 0 < K := by omega
            rw [Nat.add_zero] at hck
            rw [ordR_0, show encStr (tn (K - 1)) = .string (nameB (tn (K - 1))) from rfl, HQTL.out] at hck
            clear hc hv4
            have hwL : IntKind.i64.wrap ((K : Int) - 1) = (K : Int) - 1 := IntWalk.i64_in _ (by omega)
            go_wp2_with fail
            go_quiet (first | exact Calls.quiet_of_same (num31 _ _) | exact Calls.quiet_of_same (HDL.out _))
            go_wp2_with fail
            go_ret
            exact ⟨rfl, below_trans HOLD.out (below_drewN HB4.out _)⟩
end Go.Proofs.YtjagnihkpgbjeaaDoor
