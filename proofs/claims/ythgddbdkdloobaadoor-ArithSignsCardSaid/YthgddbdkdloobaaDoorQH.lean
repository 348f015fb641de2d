import Derived.Test.YthgddbdkdloobaaDoorQA
import Derived.Laws.BitsLemmas
import Derived.ChangeSlices
import Derived.SliceStrings
import Derived.Carry
namespace Go.Proofs.YthgddbdkdloobaaDoor
open Go.RowKit Go.ChangeShapes Go.WideShapes
set_option linter.unusedVariables false

theorem cells3 : Tryd.prog.cellsOf 3 = 1 := by kernel_rfl
def Ints (w : World) (A : Option Addr) (n : Nat) (zs : Nat → Int) : Prop := 0 < n → ∃ a, A = some a ∧ ∀ k, k < n → w.cell? (a.add k) = some (.int .i64 (zs k))
/-- A slice of numbers, opened for the walk. -/
theorem open_nums {H : Type} {enc : TypeId × Value → H} {W : World} {v : Value} {d : DataW H} {p : List MemPlace} {base : Nat}
    (hv : Value.okWide Tryd.prog W .any base 37 v) (h : DataW.Trod enc Tryd.prog W 0 (fun _ => true) true 37 v d p) :
    ∃ A n c zs, v = .slice A n c ∧ n ≤ maxLen ∧ (∀ k : Nat, -9223372036854775808 ≤ (zs k : Int) ∧ zs k ≤ 9223372036854775807) ∧ Ints W A n zs := by
  obtain ⟨a0, len, cap, rfl⟩ := okWide_slice Tryd.underlying37 hv
  obtain ⟨fuel, hf⟩ := h
  rcases open_ints Tryd.underlying37 Tryd.underlying3 cells3 hf with ⟨hcs, hx⟩ | ⟨a, len', cap', zs, hcs, _, hl, hm, hz, hx, hcell, hsz⟩
  · simp [Value.cells] at hcs
    obtain ⟨rfl, rfl, rfl⟩ := hcs
    exact ⟨none, 0, 0, fun _ => 0, rfl, by unfold maxLen; omega, fun _ => by simp, fun h => absurd h (by omega)⟩
  · simp [Value.cells] at hcs
    obtain ⟨rfl, rfl, rfl⟩ := hcs
    rw [if_pos rfl] at hz
    refine ⟨some a, len, cap, fun k => zs.getD k 0, rfl, by omega, fun k => ?_, fun _ => ⟨a, rfl, fun i hi => hcell i (by omega)⟩⟩
    by_cases hk : k < zs.length
    · have := bounds (hsz zs[k] (List.getElem_mem hk))
      simp only [List.getD_eq_getElem?_getD, List.getElem?_eq_getElem hk, Option.getD_some]
      exact this
    · simp only [List.getD_eq_getElem?_getD, List.getElem?_eq_none (Nat.le_of_not_lt hk), Option.getD_none]
      omega
theorem i64_and3 (n : Int) : bits .and .i64 n 3 = n % 4 := by
  have h3 : (BitVec.ofInt 64 3).toNat = 2 ^ 2 - 1 := by decide
  have key : (BitVec.ofInt 64 n &&& BitVec.ofInt 64 3).toNat = (n % ((2 ^ 64 : Nat) : Int)).toNat % 2 ^ 2 := by
    rw [BitVec.toNat_and, BitVec.toNat_ofInt, h3, Nat.and_two_pow_sub_one_eq_mod]
  show IntKind.i64.wrap ((BitVec.ofInt 64 n &&& BitVec.ofInt 64 3).toNat : Nat) = n % 4
  rw [key, IntKind.wrap_i64]
  omega
/-- The sign that a number stands for. -/
def sgn (z : Int) : UInt8 := if z % 4 = 0 then 43 else if z % 4 = 1 then 45 else if z % 4 = 2 then 33 else 126
def osL (zs : Nat → Int) (n : Nat) : Bs := (List.range n).map fun i => sgn (zs i)
theorem osL_len (zs : Nat → Int) (n : Nat) : (osL zs n).length = n := by simp [osL]
theorem osL_snoc (zs : Nat → Int) (k : Nat) : osL zs (k + 1) = osL zs k ++ [sgn (zs k)] := by simp [osL, List.range_succ]
theorem osL_ok (zs : Nat → Int) (n : Nat) : ∀ o ∈ osL zs n, o = 43 ∨ o = 45 ∨ o = 33 ∨ o = 126 := by
  intro o ho
  obtain ⟨i, _, rfl⟩ := List.mem_map.1 ho
  unfold sgn
  split
  · simp
  · split
    · simp
    · split <;> simp
theorem osL_drop (zs : Nat → Int) (n k : Nat) (h : k < n) (a : Int) : unAllM ((osL zs n).drop k) a = un (sgn (zs k)) (unAllM ((osL zs n).drop (k + 1)) a) := by
  rw [List.drop_eq_getElem_cons (by rw [osL_len]; exact h)]
  unfold unAllM
  rw [List.foldr_cons]
  congr 1
  simp [osL]
theorem un_plus (x : Int) : un 43 x = x := by simp [un]
theorem un_minus (x : Int) : un 45 x = wr (-x) := by simp [un]
theorem un_not (x : Int) : un 33 x = tr (x == 0) := by simp [un]
theorem un_com (x : Int) : un 126 x = bits .xor .i64 (-1) x := by simp [un]
set_option maxRecDepth 100000 in
set_option maxHeartbeats 8000000 in
theorem signs_walk (a : Int) (A : Option Addr) (n c : Nat) (zs : Nat → Int) (W : World) (ha : -9223372036854775808 ≤ a ∧ a ≤ 9223372036854775807) (hn : n ≤ maxLen)
    (hz : ∀ k, -9223372036854775808 ≤ zs k ∧ zs k ≤ 9223372036854775807) (hS : Ints W A n zs) :
    Calls Tryd.prog 6 #[.int .i64 a, .slice A n c] W fun e W' => e = .returned (.bool true) ∧ Below W.heap.size W W' := by
  unfold maxLen at hn
  have HI := Lib.hid hS
  clear hS
  by_cases c0 : (30 : Int) < (n : Int)
  case pos =>
    go_enter Tryd.func6, Tryd.ntmps6
    go_wp2_with fail
    refine (alive_any _).mono ?_
    rintro e w1 ⟨rfl, hB1⟩
    have HB1 := Lib.hid hB1
    clear hB1
    go_wp2_with fail
    go_ret
    exact ⟨rfl, HB1.out⟩
  by_cases c1 : a < 0
  case pos =>
    go_enter Tryd.func6, Tryd.ntmps6
    go_wp2_with fail
    refine (alive_any _).mono ?_
    rintro e w1 ⟨rfl, hB1⟩
    have HB1 := Lib.hid hB1
    clear hB1
    go_wp2_with fail
    go_ret
    exact ⟨rfl, HB1.out⟩
  obtain ⟨q, rfl⟩ : ∃ q : Nat, a = (q : Int) := ⟨a.toNat, by omega⟩
  have hq : q < 9223372036854775808 := by omega
  have hn30 : n ≤ 30 := by omega
  have c0' : (n : Int) ≤ 30 := by omega
  have c1' : (0 : Int) ≤ (q : Int) := by omega
  have hv := signs_val (V := Vl []) (osL_ok zs n) hq (by rw [osL_len]; exact hn30)
  have h19 := dcl_len 18 q (by omega)
  have HD := Lib.hid (fun w => RefDigits_any q hq w)
  obtain ⟨S, hS⟩ : ∃ S : ByteArray, ⟨(dcl q).toArray⟩ = S := ⟨_, rfl⟩
  have hSs : S.size ≤ 19 := by rw [← hS]; exact dcl_size hq
  have hSd : S.data.toList = dcl q := by rw [← hS]
  rw [hS] at HD
  have HSD := Lib.hid hSd
  obtain ⟨R, hR⟩ : ∃ R, unAllM (osL zs n) (q : Int) = R := ⟨_, rfl⟩
  rw [hR] at hv
  have HR := Lib.hid hR
  have E1 := Lib.hid (fun (Y : ByteArray) (hY : Y.data.toList = osL zs n ++ dcl q) (w : World) => ev13 Y _ _ _ w hY (by have := osL_len zs n; simp; omega) hv)
  clear hS hSd h19 hv hn ha hR hz
  go_enter Tryd.func6, Tryd.ntmps6
  go_wp2_with fail
  refine (alive_any _).mono ?_
  rintro e w1 ⟨rfl, hB1⟩
  have HC : Hid (∀ k, k < n → ∃ ad, A = some ad ∧ w1.cell? (ad.add k) = some (.int .i64 (zs k))) := fun k hk => by
    obtain ⟨ad, h1, h2⟩ := HI.out (by omega)
    have hck := h2 k hk
    refine ⟨ad, h1, ?_⟩
    have hlow : (ad.add k).block < W.heap.size := by
      rcases Nat.lt_or_ge (ad.add k).block W.heap.size with h | h
      · exact h
      · simp [World.cell?, Array.getElem?_eq_none h] at hck
    rw [hB1.cell hlow]
    exact hck
  have HB1 := Lib.hid hB1
  clear hB1
  simp only []
  go_wp2_with fail
  go_loop [6, 7] (fun s i => ∃ (k : Nat) (Z : ByteArray), k ≤ n ∧ s = .string Z ∧ i = .int .i64 k ∧ Z.data.toList = osL zs k ∧ Z.size ≤ k) (fun _ i => n - (intOf i).toNat)
  case atStart => exact ⟨0, ⟨#[]⟩, by omega, rfl, rfl, rfl, Nat.le_refl 0⟩
  case round =>
    obtain ⟨k, Z, hk, rfl, rfl, hZ, hZs⟩ := hrel
    by_cases hlt : k < n
    · have hltI : (k : Int) < (n : Int) := by omega
      have h0 : (0 : Int) ≤ (k : Int) := by omega
      obtain ⟨ad, rfl, hck⟩ := HC.out k hlt
      have hsn := osL_snoc zs k
      obtain ⟨z, hz⟩ : ∃ z, zs k = z := ⟨_, rfl⟩
      rw [hz] at hck hsn
      have hm : z % 4 = 0 ∨ z % 4 = 1 ∨ z % 4 = 2 ∨ z % 4 = 3 := by omega
      have hand := i64_and3 z
      have HZ := Lib.hid hZ
      clear hZ hz
      rcases hm with h | h | h | h
      · rw [h] at hand
        have HSN : Hid (osL zs (k + 1) = osL zs k ++ [43]) := by rw [Hid, hsn, sgn, if_pos h]
        clear hsn h
        go_wp2_with fail
        refine ⟨⟨k + 1, _, by omega, rfl, by go_num, ?_, ?_⟩, by simp [intOf]; omega⟩
        · rw [HSN.out]; simp [HZ.out]
        · simp [sz1]; omega
      · rw [h] at hand
        have HSN : Hid (osL zs (k + 1) = osL zs k ++ [45]) := by rw [Hid, hsn, sgn, if_neg (by omega), if_pos h]
        clear hsn h
        go_wp2_with fail
        refine ⟨⟨k + 1, _, by omega, rfl, by go_num, ?_, ?_⟩, by simp [intOf]; omega⟩
        · rw [HSN.out]; simp [HZ.out]
        · simp [sz1]; omega
      · rw [h] at hand
        have HSN : Hid (osL zs (k + 1) = osL zs k ++ [33]) := by rw [Hid, hsn, sgn, if_neg (by omega), if_neg (by omega), if_pos h]
        clear hsn h
        go_wp2_with fail
        refine ⟨⟨k + 1, _, by omega, rfl, by go_num, ?_, ?_⟩, by simp [intOf]; omega⟩
        · rw [HSN.out]; simp [HZ.out]
        · simp [sz1]; omega
      · rw [h] at hand
        have HSN : Hid (osL zs (k + 1) = osL zs k ++ [126]) := by rw [Hid, hsn, sgn, if_neg (by omega), if_neg (by omega), if_neg (by omega)]
        clear hsn h
        go_wp2_with fail
        refine ⟨⟨k + 1, _, by omega, rfl, by go_num, ?_, ?_⟩, by simp [intOf]; omega⟩
        · rw [HSN.out]; simp [HZ.out]
        · simp [sz1]; omega
    · have hltI : ¬ (k : Int) < (n : Int) := by omega
      obtain rfl : k = n := by omega
      have HZ := Lib.hid hZ
      clear hZ
      go_wp2_with fail
      go_loop [9, 10] (fun v i => ∃ j : Nat, j ≤ k ∧ v = .int .i64 (unAllM ((osL zs k).drop j) (q : Int)) ∧ i = .int .i64 ((j : Int) - 1)) (fun _ i => (intOf i + 1).toNat)
      case atStart => exact ⟨k, Nat.le_refl _, by rw [List.drop_of_length_le (by rw [osL_len]; omega)]; rfl, rfl⟩
      case round =>
        obtain ⟨j, hj, rfl, rfl⟩ := hrel
        by_cases hj0 : j = 0
        · subst hj0
          rw [List.drop_zero, HR.out, show (((0 : Nat) : Int) - 1) = -1 from rfl]
          go_wp2_with fail
          refine (HD.out _).mono ?_
          rintro e x1 ⟨rfl, h⟩
          obtain rfl := h.symm
          simp only []
          go_wp2_with fail
          refine (E1.out _ (by simp [HZ.out, HSD.out]) _).mono ?_
          rintro e w2 ⟨rfl, hB2⟩
          have HB2 := Lib.hid (HB1.out.trans (hB2.mono HB1.out.size))
          clear hB2
          simp only []
          go_wp2_with fail
          refine (num_any _ _).mono ?_
          rintro e x1 ⟨rfl, h⟩
          obtain rfl := h.symm
          simp only []
          go_wp2_with fail
          go_ret
          exact ⟨rfl, HB2.out⟩
        · obtain ⟨m, rfl⟩ : ∃ m, j = m + 1 := ⟨j - 1, by omega⟩
          have hmk : m < k := by omega
          have hmI : (m : Int) < (k : Int) := by omega
          have h0 : (0 : Int) ≤ (m : Int) := by omega
          obtain ⟨ad, rfl, hck⟩ := HC.out m hmk
          have hdr := osL_drop zs k m hmk (q : Int)
          obtain ⟨z, hz⟩ : ∃ z, zs m = z := ⟨_, rfl⟩
          rw [hz] at hck hdr
          have hi : (((m + 1 : Nat) : Int) - 1) = (m : Int) := by omega
          rw [hi]
          obtain ⟨x, hx⟩ : ∃ x, unAllM ((osL zs k).drop (m + 1)) (q : Int) = x := ⟨_, rfl⟩
          rw [hx] at hdr ⊢
          have hm : z % 4 = 0 ∨ z % 4 = 1 ∨ z % 4 = 2 ∨ z % 4 = 3 := by omega
          have hand := i64_and3 z
          have hlti : ((m : Int) + 1).toNat = m + 1 := by omega
          clear hx hz hj hj0 hi
          rcases hm with h | h | h | h
          · rw [h] at hand
            have HDR : Hid (unAllM ((osL zs k).drop m) (q : Int) = x) := by rw [Hid, hdr, sgn, if_pos h, un_plus]
            clear hdr h
            go_wp2_with fail
            exact ⟨⟨m, by omega, by rw [HDR.out], rfl⟩, by simp [intOf]⟩
          · rw [h] at hand
            have HDR : Hid (unAllM ((osL zs k).drop m) (q : Int) = wr (-x)) := by rw [Hid, hdr, sgn, if_neg (by omega), if_pos h, un_minus]
            clear hdr h
            go_wp2_with fail
            exact ⟨⟨m, by omega, by rw [HDR.out]; rfl, rfl⟩, by simp [intOf]⟩
          · rw [h] at hand
            have HDR : Hid (unAllM ((osL zs k).drop m) (q : Int) = tr (x == 0)) := by rw [Hid, hdr, sgn, if_neg (by omega), if_neg (by omega), if_pos h, un_not]
            clear hdr h
            obtain ⟨b, hb⟩ : ∃ b, (x == 0) = b := ⟨_, rfl⟩
            rw [hb] at HDR
            cases b
            · go_wp2_with fail
              exact ⟨⟨m, by omega, by rw [HDR.out]; rfl, rfl⟩, by simp [intOf]⟩
            · go_wp2_with fail
              exact ⟨⟨m, by omega, by rw [HDR.out]; rfl, rfl⟩, by simp [intOf]⟩
          · rw [h] at hand
            have HDR : Hid (unAllM ((osL zs k).drop m) (q : Int) = bits .xor .i64 (-1) x) := by rw [Hid, hdr, sgn, if_neg (by omega), if_neg (by omega), if_neg (by omega), un_com]
            clear hdr h
            go_wp2_with fail
            exact ⟨⟨m, by omega, by rw [HDR.out]; rfl, rfl⟩, by simp [intOf]⟩
end Go.Proofs.YthgddbdkdloobaaDoor
