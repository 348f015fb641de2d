import Derived.Test.YthgddbdkdloobaaDoorQA
namespace Go.Proofs.YthgddbdkdloobaaDoor
open Go.RowKit
set_option linter.unusedVariables false

theorem dz0 : evalL false [43, 48] (Vl []) = (0, 0) := by decide +kernel
theorem dz1 : evalL false [49, 56, 52, 52, 54, 55, 52, 52, 48, 55, 51, 55, 48, 57, 53, 53, 49, 54, 49, 54, 43, 48] (Vl []) = (0, 0) := by decide +kernel
theorem dz2 : evalL false [51, 54, 56, 57, 51, 52, 56, 56, 49, 52, 55, 52, 49, 57, 49, 48, 51, 50, 51, 50, 43, 48] (Vl []) = (0, 0) := by decide +kernel
theorem dz3 : evalL false [53, 53, 51, 52, 48, 50, 51, 50, 50, 50, 49, 49, 50, 56, 54, 53, 52, 56, 52, 56, 43, 48] (Vl []) = (0, 0) := by decide +kernel
set_option maxRecDepth 100000 in
set_option maxHeartbeats 4000000 in
theorem digits_walk (n z r : Int) (hn : -9223372036854775808 ≤ n ∧ n ≤ 9223372036854775807) (hz : -9223372036854775808 ≤ z ∧ z ≤ 9223372036854775807) (hr : -9223372036854775808 ≤ r ∧ r ≤ 9223372036854775807) (W : World) :
    Calls Tryd.prog 11 #[.int .i64 n, .int .i64 z, .int .i64 r] W fun e W' => e = .returned (.bool true) ∧ Below W.heap.size W W' := by
  by_cases c0 : n < 0
  case pos =>
    go_enter Tryd.func11, Tryd.ntmps11
    go_wp2_with fail
    refine (alive_any _).mono ?_
    rintro e w1 ⟨rfl, hB1⟩
    have HB1 := Lib.hid hB1
    clear hB1
    go_wp2_with fail
    go_ret
    exact ⟨rfl, HB1.out⟩
  by_cases c1 : z < 0
  case pos =>
    go_enter Tryd.func11, Tryd.ntmps11
    go_wp2_with fail
    refine (alive_any _).mono ?_
    rintro e w1 ⟨rfl, hB1⟩
    have HB1 := Lib.hid hB1
    clear hB1
    go_wp2_with fail
    go_ret
    exact ⟨rfl, HB1.out⟩
  by_cases c2 : 50 < z
  case pos =>
    go_enter Tryd.func11, Tryd.ntmps11
    go_wp2_with fail
    refine (alive_any _).mono ?_
    rintro e w1 ⟨rfl, hB1⟩
    have HB1 := Lib.hid hB1
    clear hB1
    go_wp2_with fail
    go_ret
    exact ⟨rfl, HB1.out⟩
  by_cases c3 : r < 0
  case pos =>
    go_enter Tryd.func11, Tryd.ntmps11
    go_wp2_with fail
    refine (alive_any _).mono ?_
    rintro e w1 ⟨rfl, hB1⟩
    have HB1 := Lib.hid hB1
    clear hB1
    go_wp2_with fail
    go_ret
    exact ⟨rfl, HB1.out⟩
  by_cases c4 : 3 < r
  case pos =>
    go_enter Tryd.func11, Tryd.ntmps11
    go_wp2_with fail
    refine (alive_any _).mono ?_
    rintro e w1 ⟨rfl, hB1⟩
    have HB1 := Lib.hid hB1
    clear hB1
    go_wp2_with fail
    go_ret
    exact ⟨rfl, HB1.out⟩
  obtain ⟨m, rfl⟩ : ∃ m : Nat, z = (m : Int) := ⟨z.toNat, by omega⟩
  obtain ⟨q, rfl⟩ : ∃ q : Nat, n = (q : Int) := ⟨n.toNat, by omega⟩
  have hm50 : m ≤ 50 := by omega
  have hq : q < 9223372036854775808 := by omega
  have hv := digits_val (V := Vl []) hq hm50
  have h19 := dcl_len 18 q (by omega)
  have HD := Lib.hid (fun w => RefDigits_any q hq w)
  obtain ⟨S, hS⟩ : ∃ S : ByteArray, ⟨(dcl q).toArray⟩ = S := ⟨_, rfl⟩
  have hSs : S.size ≤ 19 := by rw [← hS]; exact dcl_size hq
  have hSd : S.data.toList = dcl q := by rw [← hS]
  rw [hS] at HD
  have HSD := Lib.hid hSd
  have E1 := Lib.hid (fun (Y : ByteArray) (hY : Y.data.toList = List.replicate m 48 ++ dcl q) (w : World) => ev13 Y _ _ _ w hY (by simp; omega) hv)
  clear hS hSd h19 hv hn hz hr
  have c0' : (0 : Int) ≤ (q : Int) := by omega
  have c1' : (0 : Int) ≤ (m : Int) := by omega
  have c2' : (m : Int) ≤ 50 := by omega
  have hr4 : r = 0 ∨ r = 1 ∨ r = 2 ∨ r = 3 := by omega
  clear c3 c4
  rcases hr4 with rfl | rfl | rfl | rfl
  · have E2 := Lib.hid (fun (Y : ByteArray) (hY : Y.data.toList = [43, 48]) (w : World) => ev13 Y _ _ _ w hY (by decide) dz0)
    go_enter Tryd.func11, Tryd.ntmps11
    go_wp2_with fail
    refine (alive_any _).mono ?_
    rintro e w1 ⟨rfl, hB1⟩
    have HB1 := Lib.hid hB1
    clear hB1
    simp only []
    go_wp2_with fail
    go_loop [8, 9] (fun s i => ∃ (k : Nat) (Z : ByteArray), k ≤ m ∧ s = .string Z ∧ i = .int .i64 k ∧ Z.data.toList = List.replicate k 48 ∧ Z.size ≤ k) (fun _ i => m - (intOf i).toNat)
    case atStart => exact ⟨0, ⟨#[]⟩, by omega, rfl, rfl, rfl, Nat.le_refl 0⟩
    case round =>
      obtain ⟨k, Z, hk, rfl, rfl, hZ, hZs⟩ := hrel
      by_cases hlt : k < m
      · have hltI : (k : Int) < (m : Int) := by omega
        have HZ := Lib.hid hZ
        clear hZ
        go_wp2_with fail
        refine ⟨⟨k + 1, _, by omega, rfl, by go_num, ?_, ?_⟩, by simp [intOf]; omega⟩
        · simp [HZ.out, List.replicate_succ']
        · simp [sz1]; omega
      · have hltI : ¬ (k : Int) < (m : Int) := by omega
        obtain rfl : k = m := by omega
        have HZ := Lib.hid hZ
        clear hZ
        go_wp2_with fail
        refine (HD.out _).mono ?_
        rintro e x1 ⟨rfl, h⟩
        obtain rfl := h.symm
        simp only []
        go_wp2_with fail
        refine (E1.out _ (by simp [HZ.out, HSD.out]) _).mono ?_
        rintro e w2 ⟨rfl, hB2⟩
        have HB2 := Lib.hid (HB1.out.trans (hB2.mono HB1.out.size))
        clear hB2
        simp only []
        go_wp2_with fail
        refine (E2.out _ (by simp) _).mono ?_
        rintro e w3 ⟨rfl, hB3⟩
        have HB3 := Lib.hid ((HB2.out.alloc HB2.out.size _).trans (hB3.mono (by have := HB2.out.size; simp; omega)))
        clear hB3
        simp only []
        go_wp2_with fail
        refine (num_any _ _).mono ?_
        rintro e x1 ⟨rfl, h⟩
        obtain rfl := h.symm
        simp only []
        go_wp2_with fail
        go_ret
        exact ⟨rfl, HB3.out⟩
  · have E2 := Lib.hid (fun (Y : ByteArray) (hY : Y.data.toList = [49, 56, 52, 52, 54, 55, 52, 52, 48, 55, 51, 55, 48, 57, 53, 53, 49, 54, 49, 54, 43, 48]) (w : World) => ev13 Y _ _ _ w hY (by decide) dz1)
    go_enter Tryd.func11, Tryd.ntmps11
    go_wp2_with fail
    refine (alive_any _).mono ?_
    rintro e w1 ⟨rfl, hB1⟩
    have HB1 := Lib.hid hB1
    clear hB1
    simp only []
    go_wp2_with fail
    go_loop [8, 9] (fun s i => ∃ (k : Nat) (Z : ByteArray), k ≤ m ∧ s = .string Z ∧ i = .int .i64 k ∧ Z.data.toList = List.replicate k 48 ∧ Z.size ≤ k) (fun _ i => m - (intOf i).toNat)
    case atStart => exact ⟨0, ⟨#[]⟩, by omega, rfl, rfl, rfl, Nat.le_refl 0⟩
    case round =>
      obtain ⟨k, Z, hk, rfl, rfl, hZ, hZs⟩ := hrel
      by_cases hlt : k < m
      · have hltI : (k : Int) < (m : Int) := by omega
        have HZ := Lib.hid hZ
        clear hZ
        go_wp2_with fail
        refine ⟨⟨k + 1, _, by omega, rfl, by go_num, ?_, ?_⟩, by simp [intOf]; omega⟩
        · simp [HZ.out, List.replicate_succ']
        · simp [sz1]; omega
      · have hltI : ¬ (k : Int) < (m : Int) := by omega
        obtain rfl : k = m := by omega
        have HZ := Lib.hid hZ
        clear hZ
        go_wp2_with fail
        refine (HD.out _).mono ?_
        rintro e x1 ⟨rfl, h⟩
        obtain rfl := h.symm
        simp only []
        go_wp2_with fail
        refine (E1.out _ (by simp [HZ.out, HSD.out]) _).mono ?_
        rintro e w2 ⟨rfl, hB2⟩
        have HB2 := Lib.hid (HB1.out.trans (hB2.mono HB1.out.size))
        clear hB2
        simp only []
        go_wp2_with fail
        refine (E2.out _ (by simp) _).mono ?_
        rintro e w3 ⟨rfl, hB3⟩
        have HB3 := Lib.hid ((HB2.out.alloc HB2.out.size _).trans (hB3.mono (by have := HB2.out.size; simp; omega)))
        clear hB3
        simp only []
        go_wp2_with fail
        refine (num_any _ _).mono ?_
        rintro e x1 ⟨rfl, h⟩
        obtain rfl := h.symm
        simp only []
        go_wp2_with fail
        refine (num_any _ _).mono ?_
        rintro e x1 ⟨rfl, h⟩
        obtain rfl := h.symm
        simp only []
        go_wp2_with fail
        go_ret
        exact ⟨rfl, HB3.out⟩
  · have E2 := Lib.hid (fun (Y : ByteArray) (hY : Y.data.toList = [51, 54, 56, 57, 51, 52, 56, 56, 49, 52, 55, 52, 49, 57, 49, 48, 51, 50, 51, 50, 43, 48]) (w : World) => ev13 Y _ _ _ w hY (by decide) dz2)
    go_enter Tryd.func11, Tryd.ntmps11
    go_wp2_with fail
    refine (alive_any _).mono ?_
    rintro e w1 ⟨rfl, hB1⟩
    have HB1 := Lib.hid hB1
    clear hB1
    simp only []
    go_wp2_with fail
    go_loop [8, 9] (fun s i => ∃ (k : Nat) (Z : ByteArray), k ≤ m ∧ s = .string Z ∧ i = .int .i64 k ∧ Z.data.toList = List.replicate k 48 ∧ Z.size ≤ k) (fun _ i => m - (intOf i).toNat)
    case atStart => exact ⟨0, ⟨#[]⟩, by omega, rfl, rfl, rfl, Nat.le_refl 0⟩
    case round =>
      obtain ⟨k, Z, hk, rfl, rfl, hZ, hZs⟩ := hrel
      by_cases hlt : k < m
      · have hltI : (k : Int) < (m : Int) := by omega
        have HZ := Lib.hid hZ
        clear hZ
        go_wp2_with fail
        refine ⟨⟨k + 1, _, by omega, rfl, by go_num, ?_, ?_⟩, by simp [intOf]; omega⟩
        · simp [HZ.out, List.replicate_succ']
        · simp [sz1]; omega
      · have hltI : ¬ (k : Int) < (m : Int) := by omega
        obtain rfl : k = m := by omega
        have HZ := Lib.hid hZ
        clear hZ
        go_wp2_with fail
        refine (HD.out _).mono ?_
        rintro e x1 ⟨rfl, h⟩
        obtain rfl := h.symm
        simp only []
        go_wp2_with fail
        refine (E1.out _ (by simp [HZ.out, HSD.out]) _).mono ?_
        rintro e w2 ⟨rfl, hB2⟩
        have HB2 := Lib.hid (HB1.out.trans (hB2.mono HB1.out.size))
        clear hB2
        simp only []
        go_wp2_with fail
        refine (E2.out _ (by simp) _).mono ?_
        rintro e w3 ⟨rfl, hB3⟩
        have HB3 := Lib.hid ((HB2.out.alloc HB2.out.size _).trans (hB3.mono (by have := HB2.out.size; simp; omega)))
        clear hB3
        simp only []
        go_wp2_with fail
        refine (num_any _ _).mono ?_
        rintro e x1 ⟨rfl, h⟩
        obtain rfl := h.symm
        simp only []
        go_wp2_with fail
        refine (num_any _ _).mono ?_
        rintro e x1 ⟨rfl, h⟩
        obtain rfl := h.symm
        simp only []
        go_wp2_with fail
        go_ret
        exact ⟨rfl, HB3.out⟩
  · have E2 := Lib.hid (fun (Y : ByteArray) (hY : Y.data.toList = [53, 53, 51, 52, 48, 50, 51, 50, 50, 50, 49, 49, 50, 56, 54, 53, 52, 56, 52, 56, 43, 48]) (w : World) => ev13 Y _ _ _ w hY (by decide) dz3)
    go_enter Tryd.func11, Tryd.ntmps11
    go_wp2_with fail
    refine (alive_any _).mono ?_
    rintro e w1 ⟨rfl, hB1⟩
    have HB1 := Lib.hid hB1
    clear hB1
    simp only []
    go_wp2_with fail
    go_loop [8, 9] (fun s i => ∃ (k : Nat) (Z : ByteArray), k ≤ m ∧ s = .string Z ∧ i = .int .i64 k ∧ Z.data.toList = List.replicate k 48 ∧ Z.size ≤ k) (fun _ i => m - (intOf i).toNat)
    case atStart => exact ⟨0, ⟨#[]⟩, by omega, rfl, rfl, rfl, Nat.le_refl 0⟩
    case round =>
      obtain ⟨k, Z, hk, rfl, rfl, hZ, hZs⟩ := hrel
      by_cases hlt : k < m
      · have hltI : (k : Int) < (m : Int) := by omega
        have HZ := Lib.hid hZ
        clear hZ
        go_wp2_with fail
        refine ⟨⟨k + 1, _, by omega, rfl, by go_num, ?_, ?_⟩, by simp [intOf]; omega⟩
        · simp [HZ.out, List.replicate_succ']
        · simp [sz1]; omega
      · have hltI : ¬ (k : Int) < (m : Int) := by omega
        obtain rfl : k = m := by omega
        have HZ := Lib.hid hZ
        clear hZ
        go_wp2_with fail
        refine (HD.out _).mono ?_
        rintro e x1 ⟨rfl, h⟩
        obtain rfl := h.symm
        simp only []
        go_wp2_with fail
        refine (E1.out _ (by simp [HZ.out, HSD.out]) _).mono ?_
        rintro e w2 ⟨rfl, hB2⟩
        have HB2 := Lib.hid (HB1.out.trans (hB2.mono HB1.out.size))
        clear hB2
        simp only []
        go_wp2_with fail
        refine (E2.out _ (by simp) _).mono ?_
        rintro e w3 ⟨rfl, hB3⟩
        have HB3 := Lib.hid ((HB2.out.alloc HB2.out.size _).trans (hB3.mono (by have := HB2.out.size; simp; omega)))
        clear hB3
        simp only []
        go_wp2_with fail
        refine (num_any _ _).mono ?_
        rintro e x1 ⟨rfl, h⟩
        obtain rfl := h.symm
        simp only []
        go_wp2_with fail
        refine (num_any _ _).mono ?_
        rintro e x1 ⟨rfl, h⟩
        obtain rfl := h.symm
        simp only []
        go_wp2_with fail
        go_ret
        exact ⟨rfl, HB3.out⟩
end Go.Proofs.YthgddbdkdloobaaDoor
