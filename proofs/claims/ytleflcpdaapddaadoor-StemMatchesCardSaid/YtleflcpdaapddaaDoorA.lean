import Derived.Test.YtleflcpdaapddaaDoorRows
import Derived.Test.YtleflcpdaapddaaDoorZ
import Derived.WalkKit
import Derived.WalkSpells
import Derived.WalkLawsBesides
import Derived.IntWalk
import Derived.Lib.Hide
import Derived.Lib.Strings
import Derived.Lib.Replace
namespace Go.Proofs.YtleflcpdaapddaaDoor
open Go.RowKit

/-- Does s begin with p; does it end with it? -/
def hp (s p : ByteArray) : Bool := decide (p.size ≤ s.size) && ((s.extract 0 p.size).toList == p.toList)
def ends (s x : ByteArray) : Bool := decide (x.size ≤ s.size) && ((s.extract (s.size - x.size) s.size).toList == x.toList)

set_option maxHeartbeats 1000000 in
theorem HasPrefix_lite (s p : ByteArray) (w : World) : Calls Tryd.prog 20 #[.string s, .string p] w fun e w' => e = .returned (.bool (hp s p)) ∧ w = w' := by
  by_cases h : p.size ≤ s.size
  · have HE : Hid (hp s p = ((s.extract 0 p.size).toList == p.toList)) := by unfold Hid hp; simp [h]
    go_enter Tryd.func20, Tryd.ntmps20
    go_wp2
    go_ret
    refine ⟨?_, rfl⟩
    rw [HE.out]; rfl
  · have HE : Hid (hp s p = false) := by unfold Hid hp; simp [h]
    go_enter Tryd.func20, Tryd.ntmps20
    go_wp2
    go_ret
    refine ⟨?_, rfl⟩
    rw [HE.out]; rfl
set_option maxHeartbeats 1000000 in
theorem HasPrefix_any (s p : ByteArray) (w : World) : Calls Tryd.prog 13 #[.string s, .string p] w fun e w' => e = .returned (.bool (hp s p)) ∧ w = w' := by
  go_enter Tryd.func13, Tryd.ntmps13
  go_wp2_with (go_at_call 20; refine (HasPrefix_lite _ _ _).mono ?_; rintro e w' ⟨rfl, rfl⟩)
  go_ret
  exact ⟨rfl, rfl⟩
set_option maxHeartbeats 1000000 in
theorem Begins_any (s p : ByteArray) (w : World) : Calls Tryd.prog 15 #[.string s, .string p] w fun e w' => e = .returned (.bool (hp s p)) ∧ w = w' := by
  by_cases h : p.size ≤ s.size
  · have HE : Hid (hp s p = ((s.extract 0 p.size).toList == p.toList)) := by unfold Hid hp; simp [h]
    go_enter Tryd.func15, Tryd.ntmps15
    go_wp2
    go_ret
    refine ⟨?_, rfl⟩
    rw [HE.out]; rfl
  · have HE : Hid (hp s p = false) := by unfold Hid hp; simp [h]
    go_enter Tryd.func15, Tryd.ntmps15
    go_wp2
    go_ret
    refine ⟨?_, rfl⟩
    rw [HE.out]; rfl
set_option maxHeartbeats 1000000 in
theorem HasSuffix_lite (s x : ByteArray) (w : World) (hs : s.size ≤ 9223372036854775807) :
    Calls Tryd.prog 21 #[.string s, .string x] w fun e w' => e = .returned (.bool (ends s x)) ∧ w = w' := by
  have hlo : x.size ≤ s.size → ((s.size : Int) - (x.size : Int) + 9223372036854775808) % 18446744073709551616 - 9223372036854775808 = ((s.size - x.size : Nat) : Int) := fun _ => by omega
  by_cases h : x.size ≤ s.size
  · have HE : Hid (ends s x = ((s.extract (s.size - x.size) s.size).toList == x.toList)) := by unfold Hid ends; simp [h]
    go_enter Tryd.func21, Tryd.ntmps21
    go_wp2
    go_ret
    refine ⟨?_, rfl⟩
    rw [HE.out]; rfl
  · have HE : Hid (ends s x = false) := by unfold Hid ends; simp [h]
    go_enter Tryd.func21, Tryd.ntmps21
    go_wp2
    go_ret
    refine ⟨?_, rfl⟩
    rw [HE.out]; rfl
set_option maxHeartbeats 1000000 in
theorem HasSuffix_any (s x : ByteArray) (w : World) (hs : s.size ≤ 9223372036854775807) : Calls Tryd.prog 14 #[.string s, .string x] w fun e w' => e = .returned (.bool (ends s x)) ∧ w = w' := by
  go_enter Tryd.func14, Tryd.ntmps14
  go_wp2_with (go_at_call 21; refine (HasSuffix_lite _ _ _ hs).mono ?_; rintro e w' ⟨rfl, rfl⟩)
  go_ret
  exact ⟨rfl, rfl⟩
set_option maxHeartbeats 1000000 in
theorem Ends_any (s x : ByteArray) (w : World) (hs : s.size ≤ 9223372036854775807) :
    Calls Tryd.prog 16 #[.string s, .string x] w fun e w' => e = .returned (.bool (ends s x)) ∧ w = w' := by
  have hlo : x.size ≤ s.size → ((s.size : Int) - (x.size : Int) + 9223372036854775808) % 18446744073709551616 - 9223372036854775808 = ((s.size - x.size : Nat) : Int) := fun _ => by omega
  by_cases h : x.size ≤ s.size
  · have HE : Hid (ends s x = ((s.extract (s.size - x.size) s.size).toList == x.toList)) := by unfold Hid ends; simp [h]
    go_enter Tryd.func16, Tryd.ntmps16
    go_wp2
    go_ret
    refine ⟨?_, rfl⟩
    rw [HE.out]; rfl
  · have HE : Hid (ends s x = false) := by unfold Hid ends; simp [h]
    go_enter Tryd.func16, Tryd.ntmps16
    go_wp2
    go_ret
    refine ⟨?_, rfl⟩
    rw [HE.out]; rfl

def gb (s : ByteArray) (i : Nat) : UInt8 := s.data.toList.getD i 0
theorem gb_eq (s : ByteArray) (i : Nat) (h : i < s.size) : s[i] = gb s i := by
  unfold gb
  rw [List.getD_eq_getElem?_getD, List.getElem?_eq_getElem (by simpa using h)]
  rfl
/-- Where the first % stands; -1: nowhere. -/
def pc (l : List UInt8) : Int := if (37 : UInt8) ∈ l then (l.idxOf 37 : Int) else -1

set_option maxRecDepth 100000 in
set_option maxHeartbeats 1000000 in
theorem At_any (s : ByteArray) (w : World) (hs : s.size ≤ 100000) : Calls Tryd.prog 9 #[.string s, .int .u8 37] w fun e w' => e = .returned (.int .i64 (pc s.data.toList)) ∧ w = w' := by
  go_enter Tryd.func9, Tryd.ntmps9
  go_wp2_with fail
  go_loop [5] (fun n => ∃ k : Nat, k ≤ s.size ∧ n = .int .i64 k ∧ Hid (∀ i, i < k → gb s i ≠ 37)) (fun n => s.size - (intOf n).toNat)
  case atStart => exact ⟨0, by omega, rfl, Lib.hid (fun i h => absurd h (by omega))⟩
  case round =>
    obtain ⟨k, hk, rfl, HA⟩ := hrel
    by_cases hlt : k < s.size
    · have hgb := gb_eq s k hlt
      have hltI : (k : Int) < (s.size : Int) := by omega
      have hlen : s.data.toList.length = s.size := by simp
      by_cases hc : gb s k = 37
      · have hv : ((gb s k).toNat : Int) = 37 := by rw [hc]; rfl
        have HP : Hid (pc s.data.toList = k) := by
          have hsplit : s.data.toList = s.data.toList.take k ++ 37 :: s.data.toList.drop (k + 1) := by
            conv => lhs; rw [← List.take_append_drop k s.data.toList]
            congr 1
            rw [List.drop_eq_getElem_cons (by omega)]
            congr 1
            rw [← hc]; unfold gb; simp [hlt]
          have hno : (37 : UInt8) ∉ s.data.toList.take k := by
            intro hm
            obtain ⟨i, hi, he⟩ := List.mem_iff_getElem.1 hm
            rw [List.length_take] at hi
            refine HA.out i (by omega) ?_
            unfold gb
            rw [List.getD_eq_getElem?_getD, List.getElem?_eq_getElem (by omega)]
            rw [List.getElem_take] at he
            exact he
          have hmem : (37 : UInt8) ∈ s.data.toList := by rw [hsplit]; simp
          have hix : s.data.toList.idxOf 37 = k := by
            rw [hsplit, List.idxOf_append, if_neg hno]
            simp; omega
          unfold Hid pc
          rw [if_pos hmem, hix]
        clear hc
        go_wp2_with fail
        go_ret
        exact ⟨by rw [HP.out]; rfl, rfl⟩
      · have hv : ((gb s k).toNat : Int) ≠ 37 := fun h => hc (UInt8.toNat.inj (by simpa using (by omega : (gb s k).toNat = 37)))
        have hv2 : (((gb s k).toNat : Int) == 37) = false := by rw [beq_eq_false_iff_ne]; exact hv
        have HC := Lib.hid hc
        clear hc hv
        go_wp2_with fail
        go_round
        case rel =>
          refine ⟨k + 1, by omega, by go_num, Lib.hid (fun i hi => ?_)⟩
          by_cases h : i < k
          · exact HA.out i h
          · rw [show i = k by omega]; exact HC.out
        case measure => simp [intOf]; omega
    · have hge : ¬ (k : Int) < (s.size : Int) := by omega
      have HP : Hid (pc s.data.toList = -1) := by
        unfold Hid pc
        rw [if_neg]
        intro hm
        obtain ⟨i, hi, he⟩ := List.mem_iff_getElem.1 hm
        refine HA.out i (by simp at hi; omega) ?_
        unfold gb
        rw [List.getD_eq_getElem?_getD, List.getElem?_eq_getElem hi]
        exact he
      go_wp2_with fail
      go_ret
      exact ⟨by rw [HP.out]; rfl, rfl⟩
end Go.Proofs.YtleflcpdaapddaaDoor
