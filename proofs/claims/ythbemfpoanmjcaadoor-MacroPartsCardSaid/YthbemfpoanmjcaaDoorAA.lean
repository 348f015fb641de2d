import Derived.Test.YthbemfpoanmjcaaDoorU
namespace Go.Proofs.YthbemfpoanmjcaaDoor
open Go.RowKit
set_option linter.unusedVariables false

/-! The reference's Ends, Swap and List. -/
def endB (s x : ByteArray) : Bool := decide (x.size ≤ s.size) && ((s.extract (s.size - x.size) s.size).toList == x.toList)
theorem endB_suf (s x : ByteArray) : endB s x = Lib.hasSuffix s.data.toList x.data.toList := by
  have h0 := dl s
  have h1 := dl x
  rw [Bool.eq_iff_iff]
  unfold endB Lib.hasSuffix
  rw [Bool.and_eq_true, decide_eq_true_iff, beq_iff_eq, List.isSuffixOf_iff_suffix, List.suffix_iff_eq_drop, Lib.toList_data, Lib.toList_data]
  constructor
  · rintro ⟨h, e⟩
    rw [(ext_dt (t := s) (a := s.size - x.size) (b := s.size) (by omega) (Nat.le_refl _)).1, List.take_of_length_le (by omega)] at e
    rw [h0, h1]; exact e.symm
  · intro e
    have hl := congrArg List.length e
    rw [List.length_drop] at hl
    have h : x.size ≤ s.size := by omega
    refine ⟨h, ?_⟩
    rw [(ext_dt (t := s) (a := s.size - x.size) (b := s.size) (by omega) (Nat.le_refl _)).1, List.take_of_length_le (by omega)]
    rw [h0, h1] at e; exact e.symm
set_option maxHeartbeats 1000000 in
theorem Ends_any (s x : ByteArray) (w : World) (hs : s.size ≤ 9223372036854775807) :
    Calls Tryd.prog 25 #[.string s, .string x] w fun e w' => e = .returned (.bool (Lib.hasSuffix s.data.toList x.data.toList)) ∧ w' = w := by
  rw [← endB_suf]
  have hlo : x.size ≤ s.size → ((s.size : Int) - (x.size : Int) + 9223372036854775808) % 18446744073709551616 - 9223372036854775808 = ((s.size - x.size : Nat) : Int) := fun _ => by omega
  by_cases h : x.size ≤ s.size
  · have HE : Hid (endB s x = ((s.extract (s.size - x.size) s.size).toList == x.toList)) := by unfold Hid endB; simp [h]
    go_enter Tryd.func25, Tryd.ntmps25
    go_wp2
    go_ret
    refine ⟨?_, rfl⟩
    rw [HE.out]; rfl
  · have HE : Hid (endB s x = false) := by unfold Hid endB; simp [h]
    go_enter Tryd.func25, Tryd.ntmps25
    go_wp2
    go_ret
    refine ⟨?_, rfl⟩
    rw [HE.out]; rfl
/-- Texts with a blank between. -/
def listB : List ByteArray → Bs
  | [] => []
  | [x] => x.data.toList
  | x :: y :: l => x.data.toList ++ 32 :: listB (y :: l)
theorem listB_snoc : ∀ (l : List ByteArray) (x : ByteArray), l ≠ [] → listB (l ++ [x]) = listB l ++ 32 :: x.data.toList
  | [], x, h => absurd rfl h
  | [a], x, _ => rfl
  | a :: b :: l, x, _ => by
    show a.data.toList ++ 32 :: listB ((b :: l) ++ [x]) = _
    rw [listB_snoc (b :: l) x (by simp)]
    show _ = a.data.toList ++ 32 :: listB (b :: l) ++ _
    simp
theorem listB_one (x : ByteArray) : listB [x] = x.data.toList := rfl
theorem take_snoc {l : List ByteArray} {k : Nat} (h : k < l.length) : l.take (k + 1) = l.take k ++ [l[k]] := List.take_succ_eq_append_getElem h
set_option maxRecDepth 100000 in
set_option maxHeartbeats 4000000 in
theorem List_any (v : Value) (l : List ByteArray) (w : World) (hl : l.length ≤ 1000) (hs : ∀ x ∈ l, x.size ≤ 10000) (hT : Txt w v l) :
    Calls Tryd.prog 20 #[v] w fun e w' => ∃ t : ByteArray, e = .returned (.string t) ∧ t.data.toList = listB l ∧ w' = w := by
  obtain ⟨a, c, rfl, hc⟩ := hT.form
  have HC := Lib.hid hc
  have HS := Lib.hid hs
  clear hc hs hT
  go_enter Tryd.func20, Tryd.ntmps20
  go_wp2_with fail
  go_loopw [3, 4] (fun x i wx => ∃ (k : Nat) (S : ByteArray), x = .string S ∧ i = .int .i64 (k : Int) ∧ k ≤ l.length ∧ wx = w ∧ Hid (S.data.toList = listB (l.take k)) ∧ S.size ≤ 10001 * k) (fun _ i _ => l.length + 1 - (intOf i).toNat)
  case atStart => exact ⟨0, _, rfl, rfl, Nat.zero_le _, rfl, rfl, Nat.zero_le _⟩
  case round =>
    obtain ⟨k, S, rfl, rfl, hk, rfl, HL, hz⟩ := hrel
    by_cases hlt : k < l.length
    · have hld : decide ((k : Int) < (l.length : Int)) = true := decide_eq_true (by omega)
      have b2 : IntKind.i64.wrap ((k : Int) + 1) = (k : Int) + 1 := IntWalk.i64_in _ (by omega)
      obtain ⟨g, off, rfl, hg, hcell⟩ := HC.out k hlt
      have hx := HS.out l[k] (List.getElem_mem hlt)
      have HN := Lib.hid (take_snoc hlt)
      obtain ⟨X, hX⟩ : ∃ X, l[k] = X := ⟨_, rfl⟩
      rw [hX] at hcell hx
      have HX := Lib.hid hX
      clear hX
      by_cases h0 : k = 0
      · subst h0
        rw [Nat.add_zero] at hcell
        have h0s : S.size = 0 := by omega
        have hz1 : ¬ (9223372036854775807 < S.size + X.size) := by omega
        go_wp2_with fail
        go_roundw
        case measure => simp [intOf] <;> omega
        case rel => exact ⟨1, _, rfl, rfl, hlt, trivial, by
          rw [Hid, HN.out, HX.out, List.take_zero, List.nil_append, listB_one, ByteArray.data_append, Array.toList_append, HL.out]; rfl, by rw [ByteArray.size_append]; omega⟩
      · have hgt : decide ((0 : Int) < (k : Int)) = true := decide_eq_true (by omega)
        have hz1 : ¬ (9223372036854775807 < S.size + 1) := by omega
        have hz2 : ¬ (9223372036854775807 < S.size + 1 + X.size) := by omega
        have hne : Hid (l.take k ≠ []) := fun e => by
          have h8 := congrArg List.length e
          rw [List.length_take, List.length_nil, Nat.min_eq_left (by omega)] at h8
          omega
        have hz3 := Lib.hid (show S.size + 1 + X.size ≤ 10001 * (k + 1) by omega)
        go_wp2_with fail
        go_roundw
        case measure => simp [intOf] <;> omega
        case rel => exact ⟨k + 1, _, rfl, rfl, hlt, trivial, by
          rw [Hid, HN.out, HX.out, listB_snoc _ _ hne.out, ByteArray.data_append, Array.toList_append, ByteArray.data_append, Array.toList_append, HL.out]; simp, by rw [ByteArray.size_append, ByteArray.size_append]; exact hz3.out⟩
    · obtain rfl : k = l.length := by omega
      have hld : decide ((l.length : Int) < (l.length : Int)) = false := decide_eq_false (by omega)
      rw [List.take_length] at HL
      go_wp2_with fail
      go_ret
      exact ⟨_, rfl, HL.out, rfl⟩
end Go.Proofs.YthbemfpoanmjcaaDoor
