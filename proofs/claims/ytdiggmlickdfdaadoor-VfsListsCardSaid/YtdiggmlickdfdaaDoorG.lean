import Derived.Test.YtdiggmlickdfdaaDoorE
namespace Go.Proofs.YtdiggmlickdfdaaDoor
open Go.RowKit

/-- Where a byte is first. -/
def at_ (s : ByteArray) (c : UInt8) : Nat → Nat → Int
  | 0, _ => -1
  | n + 1, k => if k < s.size then (if gb s k = c then (k : Int) else at_ s c n (k + 1)) else -1

set_option maxRecDepth 100000 in
set_option maxHeartbeats 2000000 in
theorem At_any (s : ByteArray) (c : UInt8) (w : World) (hs : s.size ≤ 4000000) :
    Calls Tryd.prog 15 #[.string s, .int .u8 c.toNat] w fun e w' => e = .returned (.int .i64 (at_ s c (s.size + 1) 0)) ∧ w' = w := by
  obtain ⟨R, hR⟩ : ∃ R, at_ s c (s.size + 1) 0 = R := ⟨_, rfl⟩
  rw [hR]
  have HR := Lib.hid hR
  clear hR
  go_enter Tryd.func15, Tryd.ntmps15
  go_wp2_with fail
  go_loop [5] (fun ia => ∃ k : Nat, ia = .int .i64 k ∧ k ≤ s.size ∧ Hid (at_ s c (s.size + 1 - k) k = R)) (fun ia => s.size - (intOf ia).toNat)
  case atStart => exact ⟨0, rfl, by omega, HR.out⟩
  case round =>
    obtain ⟨k, rfl, hk, HK⟩ := hrel
    have h0 : (0 : Int) ≤ (k : Int) := by omega
    have hK := HK.out
    rw [show s.size + 1 - k = (s.size - k) + 1 by omega, at_] at hK
    by_cases hlt : k < s.size
    · have b1 : (k : Int) < (s.size : Int) := by omega
      have hg := gb_eq s k hlt
      rw [if_pos hlt] at hK
      by_cases hc : gb s k = c
      · rw [if_pos hc] at hK
        have hb : (((gb s k).toNat : Int) == (c.toNat : Int)) = true := by rw [hc]; simp
        have HK2 := Lib.hid hK
        clear hK hc
        go_wp2_with fail
        go_ret
        exact ⟨by rw [← HK2.out]; rfl, rfl⟩
      · rw [if_neg hc] at hK
        have hb : (((gb s k).toNat : Int) == (c.toNat : Int)) = false := by
          rw [beq_eq_false_iff_ne]
          intro e
          exact hc (UInt8.toNat.inj (Int.ofNat.inj e))
        have HK2 : Hid (at_ s c (s.size + 1 - (k + 1)) (k + 1) = R) := by rw [Hid, show s.size + 1 - (k + 1) = s.size - k by omega]; exact hK
        clear hK hc
        go_wp2_with fail
        exact ⟨⟨k + 1, by go_num, by omega, HK2.out⟩, by simp [intOf]; omega⟩
    · have b1 : ¬ (k : Int) < (s.size : Int) := by omega
      rw [if_neg hlt] at hK
      have HK2 := Lib.hid hK
      clear hK
      go_wp2_with fail
      go_ret
      exact ⟨by rw [← HK2.out]; rfl, rfl⟩

end Go.Proofs.YtdiggmlickdfdaaDoor
