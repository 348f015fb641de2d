import Derived.Test.YtplhgjngbnkhbaaDoorU
namespace Go.Proofs.YtplhgjngbnkhbaaDoor
open Go.RowKit
set_option linter.unusedVariables false

theorem low_or : ∀ k : Fin 6, bits .or .u8 ((97 + k.val : Nat) : Int) 32 = ((97 + k.val : Nat) : Int) := by decide +kernel
set_option maxRecDepth 100000 in
set_option maxHeartbeats 1000000 in
theorem lower_any (c : Nat) (h1 : 97 ≤ c) (h2 : c ≤ 102) (w : World) : Calls Tryd.prog 81 #[.int .u8 c] w fun e w' => e = .returned (.int .u8 c) ∧ w' = w := by
  have h := low_or ⟨c - 97, by omega⟩
  simp only [show 97 + (c - 97) = c by omega] at h
  go_enter Tryd.func81, Tryd.ntmps81
  go_wp2_with fail
  go_ret
  exact ⟨rfl, rfl⟩
theorem hv_cases {c : UInt8} (h : hv c < 16) : (48 ≤ c.toNat ∧ c.toNat ≤ 57 ∧ hv c = c.toNat - 48) ∨ (97 ≤ c.toNat ∧ c.toNat ≤ 102 ∧ hv c = c.toNat - 87) := by
  unfold hv at h ⊢
  split at h
  · rename_i h1; left; rw [if_pos h1]; omega
  · rename_i h1
    split at h
    · rename_i h2; right; rw [if_neg h1, if_pos h2]; omega
    · omega
theorem hval_take {l : Bs} {k : Nat} (hd : ∀ c ∈ l, hv c < 16) (hk : k < l.length) : hval (l.take (k + 1)) = hval (l.take k) * 16 + hv (l.getD k 0) ∧ hval (l.take k) < 16 ^ k ∧ hv (l.getD k 0) < 16 := by
  have hg : l.getD k 0 = l[k] := by rw [List.getD_eq_getElem?_getD, List.getElem?_eq_getElem hk]; rfl
  refine ⟨?_, ?_, ?_⟩
  · rw [List.take_add_one, List.getElem?_eq_getElem hk, hg]
    exact hval_snoc _ _
  · have := hval_lt (l.take k) (fun c hc => hd c (List.mem_of_mem_take hc))
    rw [List.length_take, Nat.min_eq_left (by omega)] at this
    exact this
  · rw [hg]; exact hd _ (List.getElem_mem hk)
theorem pow_bound {k n d : Nat} (hk : k < 16) (hn : n < 16 ^ k) (hd : d < 16) : n < 1152921504606846976 ∧ n * 16 + d < 18446744073709551616 := by
  have h : 16 ^ k ≤ 16 ^ 15 := Nat.pow_le_pow_right (by omega) (by omega)
  have e : (16 : Nat) ^ 15 = 1152921504606846976 := by decide
  omega
theorem round_facts {n d : Nat} (h1 : n < 1152921504606846976) (h2 : n * 16 + d < 18446744073709551616) (hd : d < 16) :
    ¬ (1152921504606846976 : Int) ≤ (n : Int) ∧ IntKind.u64.wrap ((n : Int) * 16) = ((n * 16 : Nat) : Int) ∧ IntKind.u64.wrap (((n * 16 : Nat) : Int) + (d : Int)) = ((n * 16 + d : Nat) : Int) ∧ ¬ ((n * 16 + d : Nat) : Int) < ((n * 16 : Nat) : Int) ∧ ¬ (18446744073709551615 : Int) < ((n * 16 + d : Nat) : Int) ∧ ¬ (16 : Int) ≤ (d : Int) := by
  refine ⟨by omega, by rw [IntKind.wrap_u64]; omega, by rw [IntKind.wrap_u64]; omega, by omega, by omega, by omega⟩
theorem dig_sub {c d : Nat} (h : 48 ≤ c) (h2 : c ≤ 57) (e : d = c - 48) : IntKind.u8.wrap ((c : Int) - 48) = (d : Int) ∧ (48 : Int) ≤ (c : Int) ∧ (c : Int) ≤ 57 ∧ ((c : Int) == 95) = false := by
  refine ⟨by rw [IntKind.wrap_u8]; omega, by omega, by omega, by rw [beq_eq_false_iff_ne]; omega⟩
theorem let_sub {c d : Nat} (h : 97 ≤ c) (h2 : c ≤ 102) (e : d = c - 87) : IntKind.u8.wrap ((c : Int) - 97) = ((c - 97 : Nat) : Int) ∧ IntKind.u8.wrap (((c - 97 : Nat) : Int) + 10) = (d : Int) ∧ ¬ (c : Int) ≤ 57 ∧ (48 : Int) ≤ (c : Int) ∧ (97 : Int) ≤ (c : Int) ∧ (c : Int) ≤ 122 ∧ ((c : Int) == 95) = false := by
  refine ⟨by rw [IntKind.wrap_u8]; omega, by rw [IntKind.wrap_u8]; omega, by omega, by omega, by omega, by omega, by rw [beq_eq_false_iff_ne]; omega⟩

set_option maxRecDepth 100000 in
set_option maxHeartbeats 4000000 in
theorem Parse_in (s : ByteArray) (w : World) (hs : 1 ≤ s.size ∧ s.size ≤ 16) (hd : ∀ c ∈ s.data.toList, hv c < 16) :
    Calls Tryd.prog 65 #[.string s, .int .i64 16, .int .i64 64] w fun e w' => e = .returned (.tuple #[.int .u64 (hval s.data.toList), .nilIface]) ∧ Below w.heap.size w w' := by
  have hl : s.data.toList.length = s.size := Array.length_toList
  have he : s.toList.isEmpty = false := by
    rw [Lib.toList_data]
    cases h : s.data.toList with
    | nil => rw [h] at hl; simp at hl; omega
    | cons a t => rfl
  have HD := Lib.hid hd
  have HS := Lib.hid hs
  have HLL := Lib.hid hl
  have hconv := Lib.run_convert_string_bytes (P := Tryd.prog) w 9 46 5 s Tryd.underlying9 Tryd.underlying46 Tryd.underlying5
  have HB := Lib.hid (bw_below w 5 s)
  have HC := Lib.hid (fun j hj => Lib.bytesWorld_cell w 5 s j hj)
  generalize Lib.bytesWorld w 5 s = W at *
  generalize grownCap w s.size 0 5 = C at *
  obtain ⟨R, hR⟩ : ∃ R, hval s.data.toList = R := ⟨_, rfl⟩
  rw [hR]
  have HR := Lib.hid hR
  have mv : IntKind.u64.wrap (IntKind.u64.wrap 18446744073709551616 - 1) = 18446744073709551615 := by decide +kernel
  clear hs hd hl hR
  go_enter Tryd.func65, Tryd.ntmps65
  go_wp2_with fail
  go_loop [12, 13, 101] (fun ua na ia => ∃ k : Nat, ua = .bool false ∧ na = .int .u64 (hval (s.data.toList.take k) : Nat) ∧ ia = .int .i64 k ∧ k ≤ s.size) (fun _ _ ia => s.size - (intOf ia).toNat)
  case atStart => exact ⟨0, rfl, rfl, rfl, by omega⟩
  case round =>
    obtain ⟨k, rfl, rfl, rfl, hk⟩ := hrel
    by_cases hlt : k < s.size
    · have hltI : (k : Int) < (s.size : Int) := by omega
      have hc := HC.out k hlt
      obtain ⟨f1, f2, f3⟩ := hval_take HD.out (by rw [HLL.out]; exact hlt)
      have hk16 : k < 16 := by have := HS.out.2; omega
      obtain ⟨g1, g2⟩ := pow_bound hk16 f2 f3
      obtain ⟨r1, r2, r3, r4, r5, r6⟩ := round_facts g1 g2 f3
      have hcs := hv_cases f3
      have HN := Lib.hid f1
      change W.cell? _ = some (.int .u8 ((s.data.toList.getD k 0).toNat : Nat)) at hc
      obtain ⟨d, hdd⟩ : ∃ d, hv (s.data.toList.getD k 0) = d := ⟨_, rfl⟩
      obtain ⟨c, hcc⟩ : ∃ c, (s.data.toList.getD k 0).toNat = c := ⟨_, rfl⟩
      obtain ⟨n, hnn⟩ : ∃ n, hval (s.data.toList.take k) = n := ⟨_, rfl⟩
      obtain ⟨n16, hn16⟩ : ∃ m, n * 16 = m := ⟨_, rfl⟩
      obtain ⟨nd, hnd⟩ : ∃ m, n16 + d = m := ⟨_, rfl⟩
      rw [hdd] at hcs HN r3 r4 r5 r6
      rw [hcc] at hc hcs
      rw [hnn] at HN r1 r2 r3 r4 r5
      rw [hn16] at r2 r3 r4 r5 HN
      rw [hnd] at r3 r4 r5 HN
      rw [hnn]
      clear f1 f2 f3 g1 g2 hdd hcc hnn hn16 hnd
      rcases hcs with ⟨q1, q2, q3⟩ | ⟨q1, q2, q3⟩
      · obtain ⟨s1, s2, s3, s4⟩ := dig_sub q1 q2 q3
        clear q1 q2 q3
        go_wp2_with fail
        exact ⟨⟨k + 1, rfl, by rw [HN.out], by go_num, by omega⟩, by simp [intOf]; omega⟩
      · obtain ⟨s1, s2, s3, s4, s5, s6, s7⟩ := let_sub q1 q2 q3
        have HLow := Lib.hid (fun w => lower_any c q1 q2 w)
        obtain ⟨m, hm⟩ : ∃ m : Int, ((c - 97 : Nat) : Int) = m := ⟨_, rfl⟩
        rw [hm] at s1 s2
        clear q1 q2 q3 hm
        go_wp2_with fail
        refine (HLow.out W).mono ?_
        rintro e w' ⟨rfl, h⟩
        obtain rfl := h.symm
        simp only []
        go_wp2_with fail
        refine (HLow.out W).mono ?_
        rintro e w' ⟨rfl, h⟩
        obtain rfl := h.symm
        simp only []
        go_wp2_with fail
        refine (HLow.out W).mono ?_
        rintro e w' ⟨rfl, h⟩
        obtain rfl := h.symm
        simp only []
        replace r1 := Int.not_le.mpr r1
        replace r4 := Int.not_lt.mpr r4
        replace r5 := Int.not_lt.mpr r5
        replace r6 := Int.not_le.mpr r6
        replace s3 := Int.not_le.mpr s3
        go_wp2_with fail
        exact ⟨⟨k + 1, rfl, by rw [HN.out], by go_num, by omega⟩, by simp [intOf]; omega⟩
    · have hltI : ¬ (k : Int) < (s.size : Int) := by omega
      have HE : Hid (hval (s.data.toList.take k) = R) := by rw [Hid, List.take_of_length_le (by rw [HLL.out]; omega)]; exact HR.out
      rw [HE.out]
      go_wp2_with fail
      go_ret2
      exact ⟨rfl, HB.out⟩

set_option maxRecDepth 100000 in
set_option maxHeartbeats 1000000 in
theorem ParseUint_any (s : ByteArray) (w : World) (hs : 1 ≤ s.size ∧ s.size ≤ 16) (hd : ∀ c ∈ s.data.toList, hv c < 16) :
    Calls Tryd.prog 45 #[.string s, .int .i64 16, .int .i64 64] w fun e w' => e = .returned (.tuple #[.int .u64 (hval s.data.toList), .nilIface]) ∧ Below w.heap.size w w' := by
  have H := Lib.hid (Parse_in s w hs hd)
  obtain ⟨R, hR⟩ : ∃ R, hval s.data.toList = R := ⟨_, rfl⟩
  rw [hR] at H ⊢
  clear hs hd hR
  go_enter Tryd.func45, Tryd.ntmps45
  go_wp2_with fail
  refine H.out.mono ?_
  rintro e w' ⟨rfl, hB⟩
  have HB := Lib.hid hB
  clear hB
  go_wp2_with fail
  go_ret2
  exact ⟨rfl, HB.out⟩
end Go.Proofs.YtplhgjngbnkhbaaDoor
