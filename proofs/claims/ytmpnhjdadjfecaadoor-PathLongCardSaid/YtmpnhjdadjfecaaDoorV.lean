import Derived.Test.YtmpnhjdadjfecaaDoorX
namespace Go.Proofs.YtmpnhjdadjfecaaDoor
open Go.RowKit
set_option linter.unusedVariables false

def ones (k : Nat) : Bs := List.replicate k 97
def many (m k : Nat) : List Bs := List.replicate m (ones k)
theorem joined_many_len (m k : Nat) : (joined (many m k)).length = m * (k + 1) := by
  induction m with
  | zero => simp [many, joined]
  | succ m ih =>
    rw [many, List.replicate_succ, joined_cons]
    show (ones k).length + 1 + (joined (many m k)).length = _
    rw [ih, Nat.succ_mul]
    simp [ones]
    omega
theorem joined_many_succ (m k : Nat) : joined (many (m + 1) k) = joined (many m k) ++ 47 :: ones k := by
  rw [many, List.replicate_succ', joined_snoc]; rfl
theorem many_good (m k : Nat) (hk : 1 ≤ k) : Good (many m k) := by
  intro x hx
  rw [many, List.mem_replicate] at hx
  obtain ⟨_, rfl⟩ := hx
  have h97 : ∀ c ∈ ones k, c = 97 := fun c hc => (List.mem_replicate.1 hc).2
  refine ⟨fun e => ?_, fun e => ?_, fun e => ?_, fun c hc e => ?_⟩
  · have := congrArg List.length e; simp [ones] at this; omega
  · have := h97 46 (by rw [e]; simp); simp at this
  · have := h97 46 (by rw [e]; simp); simp at this
  · have := h97 c hc; rw [e] at this; simp at this
theorem long_abs (m k : Nat) (hm : 1 ≤ m) (hk : 1 ≤ k) (Z : ByteArray) (hZ : Z.data.toList = joined (many m k)) :
    abs_ ⟨#[47]⟩ Z = if k ≤ 60 ∧ m ≤ 20 ∧ Z.size ≤ 200 then (Z.data.toList, 0) else ([], 3) := by
  have hw : written (many m k) = joined (many m k) := by
    unfold written
    rw [if_neg]
    intro e
    have := congrArg List.length e
    simp [many] at this
    omega
  have hp : parts ⟨#[47]⟩ Z = many m k := by
    rw [parts_eq, hZ, ← hw]
    exact partsL_written _ (many_good m k hk)
  have hzs : Z.data.toList.length = Z.size := Array.length_toList
  have hlen := joined_many_len m k
  have hmk : 1 ≤ m * (k + 1) := Nat.mul_pos hm (by omega)
  have hno : ∀ c ∈ Z.data.toList, c = 47 ∨ c = 97 := by
    intro c hc
    rw [hZ, joined, List.mem_flatMap] at hc
    obtain ⟨x, hx, hc⟩ := hc
    rw [many, List.mem_replicate] at hx
    obtain ⟨_, rfl⟩ := hx
    rcases List.mem_cons.1 hc with h | h
    · exact .inl h
    · exact .inr (List.mem_replicate.1 h).2
  have h0 : ¬ (Z.size = 0 ∨ 0 ≤ at_ Z 0 (Z.size + 1) 0 ∨ 0 ≤ at_ ⟨#[47]⟩ 0 ((⟨#[47]⟩ : ByteArray).size + 1) 0) := by
    rintro (h | h | h)
    · rw [← hzs, hZ] at h; omega
    · rw [at_mem] at h
      rcases hno 0 h with e | e <;> simp at e
    · rw [at_mem] at h; simp at h
  unfold abs_
  rw [if_neg h0, hp, hw, ← hZ]
  have hlm : (many m k).length = m := by simp [many]
  rw [hlm, hzs]
  by_cases h60 : k ≤ 60
  · rw [if_neg]
    · by_cases h : m ≤ 20 ∧ Z.size ≤ 200
      · rw [if_neg (by omega), if_pos ⟨h60, h.1, h.2⟩]
      · rw [if_pos (by omega), if_neg (fun e => h e.2)]
    · rintro ⟨x, hx, h⟩
      rw [many, List.mem_replicate] at hx
      obtain ⟨_, rfl⟩ := hx
      simp [ones] at h
      omega
  · rw [if_pos ⟨ones k, by rw [many, List.mem_replicate]; exact ⟨by omega, rfl⟩, by simp [ones]; omega⟩, if_neg (fun e => h60 e.1)]

set_option maxRecDepth 100000 in
set_option maxHeartbeats 4000000 in
theorem long_walk (n z : Int) (w : World) : Calls Tryd.prog 6 #[.int .i64 n, .int .i64 z] w fun e w' => e = .returned (.bool true) ∧ Below w.heap.size w w' := by
  go_enter Tryd.func6, Tryd.ntmps6
  go_wp2_with fail
  refine (alive_any w).mono ?_
  rintro e w1 ⟨rfl, hB⟩
  have HB := Lib.hid hB
  clear hB
  by_cases c1 : n < 1
  case pos =>
    go_wp2_with fail
    go_ret
    exact ⟨rfl, HB.out⟩
  by_cases c2 : 30 < n
  case pos =>
    go_wp2_with fail
    go_ret
    exact ⟨rfl, HB.out⟩
  by_cases c3 : z < 1
  case pos =>
    go_wp2_with fail
    go_ret
    exact ⟨rfl, HB.out⟩
  by_cases c4 : 80 < z
  case pos =>
    go_wp2_with fail
    go_ret
    exact ⟨rfl, HB.out⟩
  obtain ⟨m, hm⟩ : ∃ m : Nat, n = (m : Int) := ⟨n.toNat, by omega⟩
  obtain ⟨k, hk⟩ : ∃ k : Nat, z = (k : Int) := ⟨z.toNat, by omega⟩
  subst hm
  subst hk
  have m1 : 1 ≤ m ∧ m ≤ 30 ∧ 1 ≤ k ∧ k ≤ 80 := by omega
  have HM := Lib.hid m1
  clear m1
  go_wp2_with fail
  go_loop [7, 8] (fun oa ia => ∃ (j : Nat) (t : ByteArray), oa = .string t ∧ ia = .int .i64 j ∧ j ≤ k ∧ Hid (t.data.toList = ones j)) (fun _ ia => k - (intOf ia).toNat)
  case atStart => exact ⟨0, _, rfl, rfl, by omega, rfl⟩
  case round =>
    obtain ⟨j, t, rfl, rfl, hj, HT⟩ := hrel
    have hk80 : k ≤ 80 := HM.out.2.2.2
    have hts : t.size ≤ 80 := by
      have h1 : t.data.toList.length = t.size := Array.length_toList
      rw [HT.out] at h1; simp [ones] at h1; omega
    by_cases hlt : j < k
    · have b1 : (j : Int) < (k : Int) := by omega
      go_wp2_with fail
      exact ⟨⟨j + 1, _, rfl, by go_num, by omega, by rw [Hid, ones, List.replicate_succ', ← ones, ← HT.out]; simp⟩, by simp [intOf]; omega⟩
    · have b1 : ¬ (j : Int) < (k : Int) := by omega
      obtain rfl : j = k := by omega
      go_wp2_with fail
      go_loop [6, 9] (fun oa ia => ∃ (i : Nat) (s : ByteArray), oa = .string s ∧ ia = .int .i64 i ∧ i ≤ m ∧ Hid (s.data.toList = joined (many i j))) (fun _ ia => m - (intOf ia).toNat)
      case atStart => exact ⟨0, _, rfl, rfl, by omega, rfl⟩
      case round =>
        obtain ⟨i, s, rfl, rfl, hi, HS⟩ := hrel
        have hm30 : m ≤ 30 := HM.out.2.1
        have hss : s.size ≤ 3000 := by
          have h1 : s.data.toList.length = s.size := Array.length_toList
          rw [HS.out, joined_many_len] at h1
          have : i * (j + 1) ≤ 30 * 81 := Nat.mul_le_mul (by omega) (by omega)
          omega
        by_cases hlt2 : i < m
        · have d1 : (i : Int) < (m : Int) := by omega
          go_wp2_with fail
          exact ⟨⟨i + 1, _, rfl, by go_num, by omega, by rw [Hid, joined_many_succ, ← HS.out, ← HT.out]; simp⟩, by simp [intOf]; omega⟩
        · have d1 : ¬ (i : Int) < (m : Int) := by omega
          obtain rfl : i = m := by omega
          have hL := long_abs i j HM.out.1 HM.out.2.2.1 s HS.out
          by_cases g1 : j ≤ 60
          · have g1I : (j : Int) ≤ 60 := by omega
            by_cases g2 : i ≤ 20
            · have g2I : (i : Int) ≤ 20 := by omega
              by_cases g3 : s.size ≤ 200
              · have g3I : (s.size : Int) ≤ 200 := by omega
                rw [if_pos ⟨g1, g2, g3⟩] at hL
                have HA := Lib.hid (Abs_any ⟨#[47]⟩ s w1 (by decide) (by omega) _ _ hL)
                rw [show (⟨s.data.toList.toArray⟩ : ByteArray) = s from rfl] at HA
                clear hL
                go_wp2_with fail
                refine HA.out.mono ?_
                rintro e w2 ⟨rfl, hB⟩
                have HB2 := Lib.hid (below_step HB.out hB)
                clear hB
                go_wp2_with fail
                refine (num_any 0 w2).mono ?_
                rintro e w3 ⟨rfl, h⟩
                obtain rfl := h.symm
                go_wp2_with fail
                go_ret
                exact ⟨rfl, HB2.out⟩
              · have g3I : ¬ (s.size : Int) ≤ 200 := by omega
                rw [if_neg (fun e => g3 e.2.2)] at hL
                have HA := Lib.hid (Abs_any ⟨#[47]⟩ s w1 (by decide) (by omega) _ _ hL)
                clear hL
                go_wp2_with fail
                refine HA.out.mono ?_
                rintro e w2 ⟨rfl, hB⟩
                have HB2 := Lib.hid (below_step HB.out hB)
                clear hB
                go_wp2_with fail
                refine (num_any 3 w2).mono ?_
                rintro e w3 ⟨rfl, h⟩
                obtain rfl := h.symm
                go_wp2_with fail
                refine (num_any 3 w2).mono ?_
                rintro e w3 ⟨rfl, h⟩
                obtain rfl := h.symm
                go_wp2_with fail
                go_ret
                exact ⟨rfl, HB2.out⟩
            · have g2I : ¬ (i : Int) ≤ 20 := by omega
              rw [if_neg (fun e => g2 e.2.1)] at hL
              have HA := Lib.hid (Abs_any ⟨#[47]⟩ s w1 (by decide) (by omega) _ _ hL)
              clear hL
              go_wp2_with fail
              refine HA.out.mono ?_
              rintro e w2 ⟨rfl, hB⟩
              have HB2 := Lib.hid (below_step HB.out hB)
              clear hB
              go_wp2_with fail
              refine (num_any 3 w2).mono ?_
              rintro e w3 ⟨rfl, h⟩
              obtain rfl := h.symm
              go_wp2_with fail
              refine (num_any 3 w2).mono ?_
              rintro e w3 ⟨rfl, h⟩
              obtain rfl := h.symm
              go_wp2_with fail
              go_ret
              exact ⟨rfl, HB2.out⟩
          · have g1I : ¬ (j : Int) ≤ 60 := by omega
            rw [if_neg (fun e => g1 e.1)] at hL
            have HA := Lib.hid (Abs_any ⟨#[47]⟩ s w1 (by decide) (by omega) _ _ hL)
            clear hL
            go_wp2_with fail
            refine HA.out.mono ?_
            rintro e w2 ⟨rfl, hB⟩
            have HB2 := Lib.hid (below_step HB.out hB)
            clear hB
            go_wp2_with fail
            refine (num_any 3 w2).mono ?_
            rintro e w3 ⟨rfl, h⟩
            obtain rfl := h.symm
            go_wp2_with fail
            refine (num_any 3 w2).mono ?_
            rintro e w3 ⟨rfl, h⟩
            obtain rfl := h.symm
            go_wp2_with fail
            go_ret
            exact ⟨rfl, HB2.out⟩
end Go.Proofs.YtmpnhjdadjfecaaDoor
