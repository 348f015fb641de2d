import Derived.Test.YtkdacdbmlgffgaaR
namespace Go.Proofs.Ytkdacdbmlgffgaa
open Go.RowKit
set_option linter.unusedVariables false

theorem nm_str (i : Nat) (h : i < 504) : (⟨#[97]⟩ : ByteArray) ++ ⟨(dcl i).toArray⟩ = nm i := by
  rw [dcl_eq3 (by omega)]
  unfold nm
  apply ByteArray.ext
  simp
set_option maxRecDepth 100000 in
set_option maxHeartbeats 4000000 in
theorem many_walk (n size : Int) (W : World) : Calls Try.prog 5 #[.int .i64 n, .int .i64 size] W fun e W' => e = .returned (.bool true) ∧ Below W.heap.size W W' := by
  by_cases hr : 495 ≤ n ∧ n ≤ 503 ∧ 4090 ≤ size ∧ size ≤ 4100
  · obtain ⟨r1, r2, r3, r4⟩ := hr
    obtain ⟨N, rfl⟩ : ∃ N : Nat, n = (N : Int) := ⟨n.toNat, by omega⟩
    obtain ⟨Z, rfl⟩ : ∃ Z : Nat, size = (Z : Int) := ⟨size.toNat, by omega⟩
    have s1 : decide ((N : Int) < 495) = false := decide_eq_false (by omega)
    have s2 : decide ((503 : Int) < (N : Int)) = false := decide_eq_false (by omega)
    have s3 : decide ((Z : Int) < 4090) = false := decide_eq_false (by omega)
    have s4 : decide ((4100 : Int) < (Z : Int)) = false := decide_eq_false (by omega)
    go_enter Try.func5, Try.ntmps5
    go_wp2_with fail
    refine (alive_any _).mono ?_
    rintro e w1 ⟨rfl, hB1⟩
    have HB1 := Lib.hid hB1
    clear hB1
    simp only []
    go_wp2_with fail
    have HB2 : Hid (Below W.heap.size W (w1.alloc (.cells #[.slice none 0 0] 26))) := HB1.out.alloc HB1.out.size _
    have HV0 := Lib.hid (VAt.new w1 26 W.heap.size HB1.out.size)
    obtain ⟨g, hg⟩ : ∃ g, w1.heap.size = g := ⟨_, rfl⟩
    rw [hg] at HV0 ⊢
    clear hg
    go_loopw [7] (fun i wr => ∃ (k : Nat) (L : List Pr) (v1 : Value), k ≤ N ∧ i = .int .i64 k ∧ Hid (VAt wr 26 W.heap.size g v1 L) ∧ Hid (Full L k) ∧ Hid (Below W.heap.size W wr)) (fun i _ => N - (intOf i).toNat)
    case atStart => exact ⟨0, [], _, by omega, rfl, HV0.out, Full.zero, HB2.out⟩
    case round =>
      obtain ⟨k, L, v1, hk, rfl, HV, HF, HB⟩ := hrel
      by_cases hlt : k < N
      · have hltI : (k : Int) < (N : Int) := by omega
        have hk0 : (0 : Int) ≤ (k : Int) := by omega
        have hd := fun w => RefDigits_any k (by omega) w
        have hstr := nm_str k (by omega)
        obtain ⟨D, hD⟩ : ∃ D : ByteArray, ⟨(dcl k).toArray⟩ = D := ⟨_, rfl⟩
        have hDs : D.size ≤ 19 := by rw [← hD]; exact dcl_len 18 k (by omega)
        rw [hD] at hd hstr
        have HD := Lib.hid hd
        have HSTR := Lib.hid hstr
        obtain ⟨hE, hF⟩ := HF.out.next (k := k) (by omega)
        have HF1 := Lib.hid hF
        have HL : Hid (L.length ≤ 500) := by rw [Hid, HF.out.len]; omega
        have hS := fun w' (h : Below wr.heap.size wr w') => Set_any g v1 L (nm k) vx W.heap.size w' (by have := HL.out; omega) (by have := nm_size ⟨k, by omega⟩; simp only at this; omega) (Nat.le_trans HB.out.size h.size) HF.out.ris (HV.out.below h)
        have hS2 : ∀ w', Below wr.heap.size wr w' → Calls Try.prog 7 #[.pointer (some ⟨g, 0, none⟩), .string (nm k), .string ⟨#[120]⟩] w' fun e w'' => e = .returned (.int .i64 (setE L (nm k) vx)) ∧ Moved 26 W.heap.size g v1 (setR L (nm k) vx) w' w'' := hS
        rw [hE] at hS2
        have HS := Lib.hid hS2
        have HBE : Hid (∀ w', Moved 26 W.heap.size g v1 (setR L (nm k) vx) wr w' → Below W.heap.size W w') := fun w' hm => HB.out.trans (hm.bel HV.out HB.out.size)
        clear hd hstr hD hE hF hS hS2
        by_cases h5 : 500 ≤ k
        all_goals
          simp only [h5, if_true, if_false] at HS
        · have h5I : (500 : Int) ≤ (k : Int) := by omega
          go_wp2_with fail
          refine (HD.out _).mono ?_
          rintro e w2 ⟨rfl, h⟩
          obtain rfl := h.symm
          simp only []
          go_wp2_with fail
          rw [HSTR.out]
          refine (HS.out _ (Below.refl _ _)).mono ?_
          rintro e w3 ⟨rfl, hm⟩
          have HB3 := Lib.hid (HBE.out _ hm)
          obtain ⟨v3, hV3, _⟩ := hm
          have HV3 := Lib.hid hV3
          clear hV3
          simp only []
          go_wp2_with (go_at_call 10; refine (num_any _ _).mono ?_; rintro e w' ⟨rfl, h⟩; obtain rfl := h.symm)
          exact ⟨⟨k + 1, _, v3, by omega, by go_num, HV3.out, HF1.out, HB3.out⟩, by simp [intOf]; omega⟩
        · have h5I : decide ((500 : Int) ≤ (k : Int)) = false := decide_eq_false (by omega)
          go_wp2_with fail
          refine (HD.out _).mono ?_
          rintro e w2 ⟨rfl, h⟩
          obtain rfl := h.symm
          simp only []
          go_wp2_with fail
          rw [HSTR.out]
          refine (HS.out _ (Below.refl _ _)).mono ?_
          rintro e w3 ⟨rfl, hm⟩
          have HB3 := Lib.hid (HBE.out _ hm)
          obtain ⟨v3, hV3, _⟩ := hm
          have HV3 := Lib.hid hV3
          clear hV3
          simp only []
          go_wp2_with (go_at_call 10; refine (num_any _ _).mono ?_; rintro e w' ⟨rfl, h⟩; obtain rfl := h.symm)
          exact ⟨⟨k + 1, _, v3, by omega, by go_num, HV3.out, HF1.out, HB3.out⟩, by simp [intOf]; omega⟩
      · have hge : ¬ (k : Int) < (N : Int) := by omega
        obtain rfl : k = N := by omega
        have HSM := Lib.hid (some_any Z (by omega) wr)
        have HF0 := HF
        go_wp2_with fail
        refine HSM.out.mono ?_
        rintro e w2 ⟨⟨b, rfl, hX⟩, hb2⟩
        have hcv := hX.conv
        obtain ⟨Y, hY⟩ : ∃ Y : ByteArray, (⟨(List.replicate Z (120 : UInt8)).toArray⟩ : ByteArray) = Y := ⟨_, rfl⟩
        have hYs : Y.size = Z := by rw [← hY]; exact sz_rep Z
        have hYn : decide (0 ≤ Lib.indexByte Y.data.toList 0) = false := by rw [← hY]; exact rep_no Z
        rw [hY] at hcv
        obtain ⟨f1, f2, f3, f4⟩ := HF.out.a0 (by omega) Y hYn
        have HB2 := Lib.hid (HB.out.trans (hb2.mono HB.out.size))
        have HV2 := Lib.hid (HV.out.below hb2)
        have hS := Set_any g v1 L (nm 0) Y W.heap.size w2 (by have := HF.out.len; omega) (by decide) HB2.out.size HF.out.ris HV2.out
        have hS2 : Calls Try.prog 7 #[.pointer (some ⟨g, 0, none⟩), .string ⟨#[97, 48]⟩, .string Y] w2 fun e w'' => e = .returned (.int .i64 (setE L (nm 0) Y)) ∧ Moved 26 W.heap.size g v1 (setR L (nm 0) Y) w2 w'' := hS
        rw [f1, hYs] at hS2
        have HS := Lib.hid hS2
        obtain ⟨L2, hL2⟩ : ∃ L2, setR L (nm 0) Y = L2 := ⟨_, rfl⟩
        rw [hL2] at HS f2 f3 f4
        have HF2 := Lib.hid f2
        have HF3 := Lib.hid f3
        have HF4 := Lib.hid f4
        obtain ⟨q, hq⟩ : ∃ q : Int, (if 4096 < Z then (3 : Int) else 0) = q := ⟨_, rfl⟩
        rw [hq] at HS
        have HQ : Hid ((q == 0) = decide ((Z : Int) ≤ 4096)) := by
          rw [Hid, ← hq]
          by_cases h4 : 4096 < Z
          · rw [if_pos h4, decide_eq_false (by omega)]; rfl
          · rw [if_neg h4, decide_eq_true (by omega)]; rfl
        clear hX hb2 hY hYs hYn f1 f2 f3 f4 hS hS2 hL2 hq HF0
        simp only []
        go_wp2_with fail
        refine HS.out.mono ?_
        rintro e w3 ⟨rfl, hm⟩
        have HB3 := Lib.hid (HB2.out.trans (hm.bel HV2.out HB2.out.size))
        obtain ⟨v3, hV3, _⟩ := hm
        have HV3 := Lib.hid hV3
        have hU : Calls Try.prog 8 #[.pointer (some ⟨g, 0, none⟩), .string ⟨#[97, 49]⟩] w3 fun e w' => e = .returned (.tuple #[]) ∧ Moved 26 W.heap.size g v3 (unsetL L2 (nm 1).data.toList) w3 w' := Unset_any g v3 L2 (nm 1) W.heap.size w3 (by have := HF3.out; omega) HF2.out hV3
        have HU := Lib.hid hU
        clear hV3 hU
        simp only []
        go_wp2_with fail
        refine HU.out.mono ?_
        rintro e w4 ⟨rfl, hm⟩
        have HB4 := Lib.hid (HB3.out.trans (hm.bel HV3.out HB3.out.size))
        obtain ⟨v4, hV4, _⟩ := hm
        have HV4 := Lib.hid hV4
        have hln := len_unset HF4.out
        have hl4 : (unsetL L2 (nm 1).data.toList).length ≤ 499 := by have := HF3.out; omega
        have hE4 := set_b hl4
        have hS := Set_any g v4 _ sb ⟨#[]⟩ W.heap.size w4 (by omega) (by decide) HB4.out.size (ris_unset HF2.out _) hV4
        rw [hE4] at hS
        have hS2 : Calls Try.prog 7 #[.pointer (some ⟨g, 0, none⟩), .string ⟨#[98]⟩, .string ⟨#[]⟩] w4 fun e w'' => e = .returned (.int .i64 0) ∧ Moved 26 W.heap.size g v4 (setR (unsetL L2 (nm 1).data.toList) sb ⟨#[]⟩) w4 w'' := hS
        have HS4 := Lib.hid hS2
        clear hV4 hln hl4 hE4 hS hS2
        simp only []
        go_wp2_with fail
        refine HS4.out.mono ?_
        rintro e w5 ⟨rfl, hm⟩
        have HB5 := Lib.hid (HB4.out.trans (hm.bel HV4.out HB4.out.size))
        clear hm
        have hq := HQ.out
        simp only []
        go_wp2_with (go_at_call 10; refine (num_any _ _).mono ?_; rintro e w' ⟨rfl, h⟩; obtain rfl := h.symm)
        go_ret
        exact ⟨rfl, HB5.out⟩
  · obtain ⟨b1, hb1⟩ : ∃ b, decide (n < 495) = b := ⟨_, rfl⟩
    obtain ⟨b2, hb2⟩ : ∃ b, decide ((503 : Int) < n) = b := ⟨_, rfl⟩
    obtain ⟨b3, hb3⟩ : ∃ b, decide (size < 4090) = b := ⟨_, rfl⟩
    obtain ⟨b4, hb4⟩ : ∃ b, decide ((4100 : Int) < size) = b := ⟨_, rfl⟩
    have HNO : Hid (b1 = false → b2 = false → b3 = false → b4 = false → False) := by
      intro e1 e2 e3 e4
      rw [e1] at hb1
      rw [e2] at hb2
      rw [e3] at hb3
      rw [e4] at hb4
      have := of_decide_eq_false hb1
      have := of_decide_eq_false hb2
      have := of_decide_eq_false hb3
      have := of_decide_eq_false hb4
      exact hr ⟨by omega, by omega, by omega, by omega⟩
    clear hr
    cases b1 <;> cases b2 <;> cases b3 <;> cases b4
    all_goals first
      | exact (HNO.out rfl rfl rfl rfl).elim
      | (go_enter Try.func5, Try.ntmps5
         go_wp2_with fail
         refine (alive_any _).mono ?_
         rintro e w1 ⟨rfl, hB1⟩
         have HB1 := Lib.hid hB1
         clear hB1
         simp only []
         go_wp2_with fail
         go_ret
         exact ⟨rfl, HB1.out⟩)
end Go.Proofs.Ytkdacdbmlgffgaa
