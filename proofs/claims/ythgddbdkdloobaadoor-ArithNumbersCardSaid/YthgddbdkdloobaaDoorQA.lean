import Derived.Test.YthgddbdkdloobaaDoorPX
import Derived.Test.YthgddbdkdloobaaDoorDG
namespace Go.Proofs.YthgddbdkdloobaaDoor
open Go.RowKit
set_option linter.unusedVariables false

/-- What an expression comes to whose bytes are known. -/
theorem ev13 (T : ByteArray) (L : Bs) (v : Int) (k : Nat) (w : World) (hT : T.data.toList = L) (hsz : L.length ≤ 1000000) (hv : evalL false L (Vl []) = (v, k)) :
    Calls Tryd.prog 13 #[.string T, .slice none 0 0] w fun e w' => e = .returned (.tuple #[.int .i64 v, .int .i64 (k : Nat)]) ∧ Below w.heap.size w w' := by
  have hl := dlen T
  have h := Eval_any T [] (.slice none 0 0) w (by rw [hT] at hl; omega) (PV.nil w)
  rw [hT, hv] at h
  exact h
theorem ev13l (T : ByteArray) (L : Bs) (v : Int) (k : Nat) (l : Prs) (pv : Value) (w : World) (hP : PV w.heap.size w pv l) (hT : T.data.toList = L) (hsz : L.length ≤ 1000000) (hv : evalL false L (Vl l) = (v, k)) :
    Calls Tryd.prog 13 #[.string T, pv] w fun e w' => e = .returned (.tuple #[.int .i64 v, .int .i64 (k : Nat)]) ∧ Below w.heap.size w w' := by
  have hl := dlen T
  have h := Eval_any T l pv w (by rw [hT] at hl; omega) hP
  rw [hT, hv] at h
  exact h
theorem ev14l (T : ByteArray) (L : Bs) (v : Int) (k : Nat) (l : Prs) (pv : Value) (w : World) (hP : PV w.heap.size w pv l) (hT : T.data.toList = L) (hsz : L.length ≤ 1000000) (hv : evalL false L (Vl l) = (v, k)) :
    Calls Tryd.prog 14 #[.string T, pv] w fun e w' => e = .returned (.tuple #[.int .i64 v, .int .i64 (k : Nat)]) ∧ Below w.heap.size w w' := by
  have hl := dlen T
  have h := RefEval_any T l pv w (by rw [hT] at hl; omega) hP
  rw [hT, evalL_lim, hv] at h
  exact h
theorem dcl_size {n : Nat} (h : n < 9223372036854775808) : (⟨(dcl n).toArray⟩ : ByteArray).size ≤ 19 := by
  have := dcl_len 18 n (by omega)
  show (dcl n).toArray.size ≤ 19
  simpa using this
theorem sz1 (c : UInt8) : (⟨#[c]⟩ : ByteArray).size = 1 := rfl
theorem bounds {z : Int} (h : (Lit.int .i64 z).wf = true) : -9223372036854775808 ≤ z ∧ z ≤ 9223372036854775807 := by
  simp [Lit.wf] at h
  have h1 : IntKind.i64.min = -9223372036854775808 := by decide
  have h2 : IntKind.i64.max = 9223372036854775807 := by decide
  omega
theorem dcl_data (n : Nat) : (⟨(dcl n).toArray⟩ : ByteArray).data.toList = dcl n := rfl
set_option maxRecDepth 100000 in
set_option maxHeartbeats 4000000 in
theorem deep_walk (n a : Int) (hn : -9223372036854775808 ≤ n ∧ n ≤ 9223372036854775807) (ha : -9223372036854775808 ≤ a ∧ a ≤ 9223372036854775807) (W : World) :
    Calls Tryd.prog 8 #[.int .i64 n, .int .i64 a] W fun e W' => e = .returned (.bool true) ∧ Below W.heap.size W W' := by
  by_cases c0 : n < 0
  case pos =>
    go_enter Tryd.func8, Tryd.ntmps8
    go_wp2_with fail
    refine (alive_any _).mono ?_
    rintro e w1 ⟨rfl, hB1⟩
    have HB1 := Lib.hid hB1
    clear hB1
    go_wp2_with fail
    go_ret
    exact ⟨rfl, HB1.out⟩
  by_cases c1 : 60 < n
  case pos =>
    go_enter Tryd.func8, Tryd.ntmps8
    go_wp2_with fail
    refine (alive_any _).mono ?_
    rintro e w1 ⟨rfl, hB1⟩
    have HB1 := Lib.hid hB1
    clear hB1
    go_wp2_with fail
    go_ret
    exact ⟨rfl, HB1.out⟩
  by_cases c2 : a < 0
  case pos =>
    go_enter Tryd.func8, Tryd.ntmps8
    go_wp2_with fail
    refine (alive_any _).mono ?_
    rintro e w1 ⟨rfl, hB1⟩
    have HB1 := Lib.hid hB1
    clear hB1
    go_wp2_with fail
    go_ret
    exact ⟨rfl, HB1.out⟩
  obtain ⟨m, rfl⟩ : ∃ m : Nat, n = (m : Int) := ⟨n.toNat, by omega⟩
  obtain ⟨q, rfl⟩ : ∃ q : Nat, a = (q : Int) := ⟨a.toNat, by omega⟩
  have hm60 : m ≤ 60 := by omega
  have hq : q < 9223372036854775808 := by omega
  have hv := deep_val (V := Vl []) hq hm60
  have hnl := nest_len (dcl q)
  have h19 := dcl_len 18 q (by omega)
  have HD := Lib.hid (fun w => RefDigits_any q hq w)
  obtain ⟨S, hS⟩ : ∃ S : ByteArray, ⟨(dcl q).toArray⟩ = S := ⟨_, rfl⟩
  have hSs : S.size ≤ 19 := by rw [← hS]; exact dcl_size hq
  have hSd : S.data.toList = dcl q := by rw [← hS]
  rw [hS] at HD
  have HSD := Lib.hid hSd
  have HNL := Lib.hid hnl
  have H19 := Lib.hid h19
  have HV := Lib.hid hv
  clear hS hSd hnl h19 hv hn ha
  have c0' : (0 : Int) ≤ (m : Int) := by omega
  have c1' : (m : Int) ≤ 60 := by omega
  have c2' : (0 : Int) ≤ (q : Int) := by omega
  go_enter Tryd.func8, Tryd.ntmps8
  go_wp2_with fail
  refine (alive_any _).mono ?_
  rintro e w1 ⟨rfl, hB1⟩
  have HB1 := Lib.hid hB1
  clear hB1
  simp only []
  go_wp2_with fail
  refine (HD.out _).mono ?_
  rintro e x1 ⟨rfl, h⟩
  obtain rfl := h.symm
  simp only []
  go_wp2_with fail
  go_loop [6, 7] (fun s i => ∃ (k : Nat) (Z : ByteArray), k ≤ m ∧ s = .string Z ∧ i = .int .i64 k ∧ Z.data.toList = nest (dcl q) k ∧ Z.size ≤ 19 + 2 * k) (fun _ i => m - (intOf i).toNat)
  case atStart => exact ⟨0, S, by omega, rfl, rfl, HSD.out, by omega⟩
  case round =>
    obtain ⟨k, Z, hk, rfl, rfl, hZ, hZs⟩ := hrel
    by_cases hlt : k < m
    · have hltI : (k : Int) < (m : Int) := by omega
      have HZ := Lib.hid hZ
      clear hZ
      go_wp2_with fail
      refine ⟨⟨k + 1, _, by omega, rfl, by go_num, ?_, ?_⟩, by simp [intOf]; omega⟩
      · simp [HZ.out, nest]
      · simp [sz1]; omega
    · have hltI : ¬ (k : Int) < (m : Int) := by omega
      obtain rfl : k = m := by omega
      have HZ := Lib.hid hZ
      clear hZ
      by_cases h40 : 40 < k
      · have h40I : (40 : Int) < (k : Int) := by omega
        have v1 := HV.out.1
        have v2 := HV.out.2
        rw [if_pos h40] at v1 v2
        obtain ⟨u, hu⟩ : ∃ u, (evalL false (nest (dcl q) k ++ [40]) (Vl [])).1 = u := ⟨_, rfl⟩
        have v3 : evalL false (nest (dcl q) k ++ [40]) (Vl []) = (u, 3) := Prod.ext hu v2
        have E1 := Lib.hid (fun (Y : ByteArray) (hY : Y.data.toList = nest (dcl q) k) (w : World) => ev13 Y _ _ _ w hY (by rw [HNL.out]; have := H19.out; omega) v1)
        have E2 := Lib.hid (fun (Y : ByteArray) (hY : Y.data.toList = nest (dcl q) k ++ [40]) (w : World) => ev13 Y _ _ _ w hY (by rw [List.length_append, HNL.out]; have := H19.out; simp; omega) v3)
        clear v1 v2 v3 hu
        go_wp2_with fail
        refine (E1.out Z HZ.out _).mono ?_
        rintro e w2 ⟨rfl, hB2⟩
        have HB2 := Lib.hid (HB1.out.trans (hB2.mono HB1.out.size))
        clear hB2
        simp only []
        go_wp2_with fail
        refine (E2.out _ (by simp [HZ.out]) _).mono ?_
        rintro e w3 ⟨rfl, hB3⟩
        have HB3 := Lib.hid (HB2.out.trans (hB3.mono HB2.out.size))
        clear hB3
        simp only []
        go_wp2_with fail
        refine (num_any _ _).mono ?_
        rintro e x1 ⟨rfl, h⟩
        obtain rfl := h.symm
        simp only []
        go_wp2_with fail
        refine (num_any _ _).mono ?_
        rintro e x1 ⟨rfl, h⟩
        obtain rfl := h.symm
        simp only []
        go_wp2_with fail
        go_ret
        exact ⟨rfl, HB3.out⟩
      · have h40I : ¬ (40 : Int) < (k : Int) := by omega
        have v1 := HV.out.1
        have v2 := HV.out.2
        rw [if_neg h40] at v1 v2
        obtain ⟨u, hu⟩ : ∃ u, (evalL false (nest (dcl q) k ++ [40]) (Vl [])).1 = u := ⟨_, rfl⟩
        have v3 : evalL false (nest (dcl q) k ++ [40]) (Vl []) = (u, 2) := Prod.ext hu v2
        have E1 := Lib.hid (fun (Y : ByteArray) (hY : Y.data.toList = nest (dcl q) k) (w : World) => ev13 Y _ _ _ w hY (by rw [HNL.out]; have := H19.out; omega) v1)
        have E2 := Lib.hid (fun (Y : ByteArray) (hY : Y.data.toList = nest (dcl q) k ++ [40]) (w : World) => ev13 Y _ _ _ w hY (by rw [List.length_append, HNL.out]; have := H19.out; simp; omega) v3)
        clear v1 v2 v3 hu
        go_wp2_with fail
        refine (E1.out Z HZ.out _).mono ?_
        rintro e w2 ⟨rfl, hB2⟩
        have HB2 := Lib.hid (HB1.out.trans (hB2.mono HB1.out.size))
        clear hB2
        simp only []
        go_wp2_with fail
        refine (E2.out _ (by simp [HZ.out]) _).mono ?_
        rintro e w3 ⟨rfl, hB3⟩
        have HB3 := Lib.hid (HB2.out.trans (hB3.mono HB2.out.size))
        clear hB3
        simp only []
        go_wp2_with fail
        refine (num_any _ _).mono ?_
        rintro e x1 ⟨rfl, h⟩
        obtain rfl := h.symm
        simp only []
        go_wp2_with fail
        refine (num_any _ _).mono ?_
        rintro e x1 ⟨rfl, h⟩
        obtain rfl := h.symm
        simp only []
        go_wp2_with fail
        go_ret
        exact ⟨rfl, HB3.out⟩
end Go.Proofs.YthgddbdkdloobaaDoor
