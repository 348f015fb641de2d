import Derived.Test.YtplhgjngbnkhbaaDoorB
import Derived.RegionTactic
import Derived.BigRegion
import Derived.BigQuiet
import Derived.IntWalk
import Derived.Deep.QuietTactic
import Derived.Deep.LoopGhost
namespace Go.Proofs.YtplhgjngbnkhbaaDoor
open Go.RowKit

/-- Does s begin with p? -/
def hp (s p : ByteArray) : Bool := decide (p.size ≤ s.size) && ((s.extract 0 p.size).toList == p.toList)

set_option maxHeartbeats 1000000 in
theorem HasPrefix_lite (s p : ByteArray) (w : World) :
    Calls Tryd.prog 46 #[.string s, .string p] w fun e w' => e = .returned (.bool (hp s p)) ∧ w' = w := by
  by_cases h : p.size ≤ s.size
  · have HE : Hid (hp s p = ((s.extract 0 p.size).toList == p.toList)) := by unfold Hid hp; simp [h]
    go_enter Tryd.func46, Tryd.ntmps46
    go_wp2
    go_ret
    refine ⟨?_, rfl⟩
    rw [HE.out]; rfl
  · have HE : Hid (hp s p = false) := by unfold Hid hp; simp [h]
    go_enter Tryd.func46, Tryd.ntmps46
    go_wp2
    go_ret
    refine ⟨?_, rfl⟩
    rw [HE.out]; rfl
theorem HasPrefix_any (s p : ByteArray) (w : World) :
    Calls Tryd.prog 27 #[.string s, .string p] w fun e w' => e = .returned (.bool (hp s p)) ∧ w' = w := by
  go_enter Tryd.func27, Tryd.ntmps27
  go_wp2_with (go_at_call 46; refine (HasPrefix_lite _ _ _).mono ?_; rintro e w' ⟨rfl, rfl⟩)
  go_ret
  exact ⟨rfl, rfl⟩
theorem CutPrefix_lite (s p : ByteArray) (w : World) :
    Calls Tryd.prog 43 #[.string s, .string p] w fun e w' => e = .returned (.tuple #[.string (if hp s p = true then s.extract p.size s.size else s), .bool (hp s p)]) ∧ w' = w := by
  cases h : hp s p
  · have H := Lib.hid h
    clear h
    go_enter Tryd.func43, Tryd.ntmps43
    go_wp2_with (go_at_call 46; refine (HasPrefix_lite _ _ _).mono ?_; rw [H.out]; rintro e w' ⟨rfl, rfl⟩)
    go_ret2
    exact ⟨rfl, rfl⟩
  · have hle : p.size ≤ s.size := by unfold hp at h; simp at h; exact h.1
    have H := Lib.hid h
    clear h
    go_enter Tryd.func43, Tryd.ntmps43
    go_wp2_with (go_at_call 46; refine (HasPrefix_lite _ _ _).mono ?_; rw [H.out]; rintro e w' ⟨rfl, rfl⟩)
    go_ret2
    exact ⟨rfl, rfl⟩
theorem CutPrefix_any (s p : ByteArray) (w : World) :
    Calls Tryd.prog 25 #[.string s, .string p] w fun e w' => e = .returned (.tuple #[.string (if hp s p = true then s.extract p.size s.size else s), .bool (hp s p)]) ∧ w' = w := by
  obtain ⟨r, hr⟩ : ∃ r, (if hp s p = true then s.extract p.size s.size else s) = r := ⟨_, rfl⟩
  have HR := Lib.hid hr
  rw [hr]
  clear hr
  go_enter Tryd.func25, Tryd.ntmps25
  go_wp2_with (go_at_call 43; refine (CutPrefix_lite s p _).mono ?_; rw [HR.out]; rintro e w' ⟨rfl, rfl⟩)
  go_ret2
  exact ⟨rfl, rfl⟩

/-- Is it a decimal digit? -/
def isDig (c : UInt8) : Bool := decide (48 ≤ c.toNat ∧ c.toNat ≤ 57)
theorem Digit_any (c : UInt8) (w : World) : Calls Tryd.prog 67 #[.int .u8 c.toNat] w fun e w' => e = .returned (.bool (isDig c)) ∧ w' = w := by
  by_cases h1 : 48 ≤ c.toNat
  · by_cases h2 : c.toNat ≤ 57
    · have d2 : decide ((c.toNat : Int) ≤ 57) = true := by simp; omega
      have H : Hid (isDig c = true) := by unfold Hid isDig; simp [h1, h2]
      go_enter Tryd.func67, Tryd.ntmps67
      go_wp2
      go_ret
      exact ⟨by rw [H.out]; rfl, rfl⟩
    · have d2 : decide ((c.toNat : Int) ≤ 57) = false := by simp; omega
      have H : Hid (isDig c = false) := by unfold Hid isDig; simp; omega
      go_enter Tryd.func67, Tryd.ntmps67
      go_wp2
      go_ret
      exact ⟨by rw [H.out]; rfl, rfl⟩
  · have H : Hid (isDig c = false) := by unfold Hid isDig; simp; omega
    go_enter Tryd.func67, Tryd.ntmps67
    go_wp2
    go_ret
    exact ⟨by rw [H.out]; rfl, rfl⟩

def gb (s : ByteArray) (i : Nat) : UInt8 := s.data.toList.getD i 0
theorem gb_eq (s : ByteArray) (i : Nat) (h : i < s.size) : s[i] = gb s i := by
  unfold gb
  rw [List.getD_eq_getElem?_getD, List.getElem?_eq_getElem (by simpa using h)]
  rfl
/-- How many digits stand at the beginning. -/
def lead (s : ByteArray) : Nat := (s.data.toList.takeWhile isDig).length
theorem takeWhile_all {p : UInt8 → Bool} {l : List UInt8} (h : ∀ a ∈ l, p a = true) : l.takeWhile p = l := by
  induction l with
  | nil => rfl
  | cons a l ih => simp [List.takeWhile_cons, h a (by simp)]; exact ih (fun b hb => h b (by simp [hb]))
theorem lead_iff (s : ByteArray) (k : Nat) (hk : k ≤ s.size) (hall : ∀ i, i < k → isDig (gb s i) = true) (hend : k = s.size ∨ isDig (gb s k) = false) : lead s = k := by
  unfold lead
  have hl : k ≤ s.data.toList.length := by simpa using hk
  have hsplit : s.data.toList = s.data.toList.take k ++ s.data.toList.drop k := (List.take_append_drop k _).symm
  have h1 : (s.data.toList.take k).takeWhile isDig = s.data.toList.take k := by
    apply takeWhile_all
    intro c hc
    obtain ⟨i, hi, rfl⟩ := List.mem_iff_getElem.1 hc
    rw [List.length_take] at hi
    have := hall i (by omega)
    unfold gb at this
    rw [List.getD_eq_getElem?_getD, List.getElem?_eq_getElem (by omega)] at this
    rw [List.getElem_take]
    exact this
  rw [hsplit, List.takeWhile_append, h1, if_pos rfl, List.length_append, List.length_take]
  have h2 : (s.data.toList.drop k).takeWhile isDig = [] := by
    rcases hend with h | h
    · rw [List.drop_of_length_le (by simpa using Nat.le_of_eq h.symm)]; rfl
    · cases e : s.data.toList.drop k with
      | nil => rfl
      | cons c l =>
        have hc : gb s k = c := by
          unfold gb
          rw [List.getD_eq_getElem?_getD]
          have : (s.data.toList.drop k)[0]? = some c := by rw [e]; rfl
          rw [List.getElem?_drop, Nat.add_zero] at this
          rw [this]; rfl
        rw [List.takeWhile_cons, ← hc, h]; rfl
  rw [h2]; simp; omega

set_option maxRecDepth 100000 in
set_option maxHeartbeats 1000000 in
theorem Digits_any (s : ByteArray) (w : World) (hs : s.size ≤ 100000) : Calls Tryd.prog 47 #[.string s] w fun e w' => e = .returned (.int .i64 (lead s)) ∧ w' = w := by
  go_enter Tryd.func47, Tryd.ntmps47
  go_wp2_with fail
  go_loop [3] (fun n => ∃ k : Nat, k ≤ s.size ∧ n = .int .i64 k ∧ Hid (∀ i, i < k → isDig (gb s i) = true)) (fun n => s.size - (intOf n).toNat)
  case atStart => exact ⟨0, by omega, rfl, Lib.hid (fun i h => absurd h (by omega))⟩
  case round =>
    obtain ⟨k, hk, rfl, HA⟩ := hrel
    by_cases hlt : k < s.size
    · have hgb := gb_eq s k hlt
      have hltI : (k : Int) < (s.size : Int) := by omega
      cases hd : isDig (gb s k)
      · have HD := Lib.hid hd
        clear hd
        go_wp2_with (go_at_call 67; refine (Digit_any _ _).mono ?_; rw [HD.out]; rintro e w' ⟨rfl, rfl⟩)
        go_ret
        exact ⟨by rw [lead_iff s k hk HA.out (.inr HD.out)]; rfl, rfl⟩
      · have HD := Lib.hid hd
        clear hd
        go_wp2_with (go_at_call 67; refine (Digit_any _ _).mono ?_; rw [HD.out]; rintro e w' ⟨rfl, rfl⟩)
        go_round
        case rel =>
          refine ⟨k + 1, by omega, by go_num, Lib.hid (fun i hi => ?_)⟩
          by_cases h : i < k
          · exact HA.out i h
          · rw [show i = k by omega]; exact HD.out
        case measure => simp [intOf]; omega
    · have hdf : decide ((k : Int) < (s.size : Int)) = false := by simp; omega
      have HE : Hid (lead s = k) := lead_iff s k hk HA.out (.inl (by omega))
      go_wp2_with fail
      go_ret
      exact ⟨by rw [HE.out]; rfl, rfl⟩
end Go.Proofs.YtplhgjngbnkhbaaDoor
