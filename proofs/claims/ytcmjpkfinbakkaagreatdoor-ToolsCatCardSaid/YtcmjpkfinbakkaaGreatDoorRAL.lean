import Derived.Test.YtcmjpkfinbakkaaGreatDoorRM
namespace Go.Proofs.YtcmjpkfinbakkaaGreatDoor.Fl
set_option maxRecDepth 100000
open Go.RowKit Ieee
set_option linter.unusedVariables false

theorem drop_get {s : ByteArray} {k : Nat} (h2 : 2 ≤ k) : (s.data.toList.drop 2).getD (k - 2) 0 = gb s k := by
  unfold gb
  rw [List.getD_eq_getElem?_getD, List.getD_eq_getElem?_getD, List.getElem?_drop, show 2 + (k - 2) = k by omega]
theorem allHx_get {l : Bs} (h : allHx l = true) {c : UInt8} (hc : c ∈ l) : hv c < 16 := by
  have := List.all_eq_true.1 h c hc
  simpa using this
theorem allHx_of {l : Bs} (h : ∀ j, j < l.length → hv (l.getD j 0) < 16) : allHx l = true := by
  unfold allHx
  rw [List.all_eq_true]
  intro c hc
  obtain ⟨j, hj, e⟩ := List.getElem_of_mem hc
  have := h j hj
  rw [List.getD_eq_getElem?_getD, List.getElem?_eq_getElem hj] at this
  simpa [e] using this
set_option maxRecDepth 100000 in
set_option maxHeartbeats 4000000 in
theorem Real_bits (s : ByteArray) (w : World) (h1 : s.size = 18) (h2 : s.data.toList.take 2 = [48, 120]) :
    Calls Tryz.prog 27 #[.string s] w fun e w' => e = .returned (.tuple #[.int .u64 (bitsL (s.data.toList.drop 2)).1, .bool (bitsL (s.data.toList.drop 2)).2]) ∧ Below w.heap.size w w' := by
  have hl : s.data.toList.length = s.size := Array.length_toList
  have g1 : ((s.size : Int) == 18) = true := by rw [beq_iff_eq]; omega
  have b1 : (2 : Int) ≤ (s.size : Int) := by omega
  have g2 : ((s.extract 0 2).toList == [48, 120]) = true := by rw [beq_iff_eq, Lib.extract_toList]; exact h2
  obtain ⟨D, hD⟩ : ∃ D, s.data.toList.drop 2 = D := ⟨_, rfl⟩
  have hDl : D.length = 16 := by rw [← hD, List.length_drop]; omega
  rw [hD]
  have HG : Hid (∀ k, 2 ≤ k → D.getD (k - 2) 0 = gb s k) := by intro k hk; rw [← hD]; exact drop_get hk
  have HDL := Lib.hid hDl
  have hsz : s.size ≤ 18 := by omega
  have hsz2 : 18 ≤ s.size := by omega
  have HYES : Hid (∀ h : allHx D = true, bitsL D = (cl (hval D), true)) := by intro h; rw [bitsL, if_pos ⟨hDl, h⟩]
  have HNO : Hid (∀ h : ¬ allHx D = true, bitsL D = (0, false)) := by intro h; rw [bitsL, if_neg (fun e => h e.2)]
  obtain ⟨R, hR⟩ : ∃ R, bitsL D = R := ⟨_, rfl⟩
  rw [hR]
  have HR := Lib.hid hR
  have hf := run_from
  clear h1 h2 hl hD hDl hR
  go_enter Tryz.func27, Tryz.ntmps27
  go_wp2_with fail
  go_loop [4, 5] (fun n i => ∃ k : Nat, 2 ≤ k ∧ k ≤ 18 ∧ i = .int .i64 k ∧ n = .int .u64 (hval (D.take (k - 2)) : Nat) ∧ ∀ c ∈ D.take (k - 2), hv c < 16) (fun _ i => 18 - (intOf i).toNat)
  case atStart => exact ⟨2, by omega, by omega, rfl, rfl, by intro c hc; simp at hc⟩
  case round =>
    obtain ⟨k, hk2, hk, rfl, rfl, hall⟩ := hrel
    have HALL := Lib.hid hall
    clear hall
    by_cases hlt : k < 18
    · have hltI : (k : Int) < 18 := by omega
      have hks : k < s.size := by omega
      have hgb := gb_eq s k hks
      by_cases hh : hv (gb s k) < 16
      · have HY := Lib.hid (fun w => hex_yes (gb s k) hh w)
        have hN : hval (D.take (k + 1 - 2)) = hval (D.take (k - 2)) * 16 + hv (gb s k) := by
          rw [show k + 1 - 2 = k - 2 + 1 by omega, List.take_add_one, ← HG.out k hk2]
          have : D[k - 2]? = some (D.getD (k - 2) 0) := by
            rw [List.getD_eq_getElem?_getD, List.getElem?_eq_getElem (by rw [HDL.out]; omega)]; rfl
          rw [this]; exact hval_snoc _ _
        have hA : ∀ c ∈ D.take (k + 1 - 2), hv c < 16 := by
          intro c hc
          rw [show k + 1 - 2 = k - 2 + 1 by omega, List.take_add_one] at hc
          rcases List.mem_append.1 hc with h | h
          · exact HALL.out c h
          · have : D[k - 2]? = some (D.getD (k - 2) 0) := by
              rw [List.getD_eq_getElem?_getD, List.getElem?_eq_getElem (by rw [HDL.out]; omega)]; rfl
            rw [this, HG.out k hk2] at h
            simp at h; rw [h]; exact hh
        have hlt2 : hval (D.take (k - 2)) < 1152921504606846976 := by
          have h1 := hval_lt _ HALL.out
          have h2 : (D.take (k - 2)).length ≤ 15 := by rw [List.length_take]; omega
          exact Nat.lt_of_lt_of_le h1 (Nat.pow_le_pow_right (n := 16) (by omega) h2)
        have hso := shl_or hlt2 hh
        have HN := Lib.hid hN
        have HA := Lib.hid hA
        obtain ⟨d, hd⟩ : ∃ d, hv (gb s k) = d := ⟨_, rfl⟩
        obtain ⟨n, hn⟩ : ∃ n, hval (D.take (k - 2)) = n := ⟨_, rfl⟩
        rw [hd] at HY hso HN hh
        rw [hn] at hso HN ⊢
        obtain ⟨nd, hnd⟩ : ∃ m, n * 16 + d = m := ⟨_, rfl⟩
        rw [hnd] at hso HN
        have hd0 : (0 : Int) ≤ (d : Int) := by omega
        have hd1 : (d : Int) < 16 := by omega
        clear hN hA hlt2 hd hn hnd hh
        go_wp2_with fail
        refine (HY.out w).mono ?_
        rintro e w' ⟨rfl, h⟩
        obtain rfl := h.symm
        go_wp2_with fail
        exact ⟨⟨k + 1, by omega, by omega, by go_num, by rw [HN.out], HA.out⟩, by simp [intOf]; omega⟩
      · have HY := Lib.hid (fun w => hex_no (gb s k) hh w)
        have hb : ¬ allHx D = true := by
          intro e
          apply hh
          rw [← HG.out k hk2]
          refine allHx_get e ?_
          rw [List.getD_eq_getElem?_getD, List.getElem?_eq_getElem (by rw [HDL.out]; omega)]
          exact List.getElem_mem _
        have hR := HR.out
        rw [HNO.out hb] at hR
        subst hR
        clear hh hb HR
        go_wp2_with fail
        refine (HY.out w).mono ?_
        rintro e w' ⟨rfl, h⟩
        obtain rfl := h.symm
        go_wp2_with fail
        go_ret2
        exact ⟨rfl, Below.refl _ _⟩
    · have hk18 : k = 18 := by omega
      have hltI : ¬ (k : Int) < 18 := by omega
      have ht : D.take (k - 2) = D := List.take_of_length_le (by rw [HDL.out]; omega)
      have hb : allHx D = true := by
        unfold allHx; rw [List.all_eq_true]; intro c hc; simpa using HALL.out c (by rw [ht]; exact hc)
      have hR := HR.out
      rw [HYES.out hb] at hR
      subst hR
      rw [ht]
      clear hk18 ht hb HR
      go_wp2_with fail
      refine (clean_any _ _).mono ?_
      rintro e w' ⟨rfl, h⟩
      obtain rfl := h.symm
      go_wp2_with fail
      go_ret2
      exact ⟨rfl, Below.refl _ _⟩
end Go.Proofs.YtcmjpkfinbakkaaGreatDoor.Fl
