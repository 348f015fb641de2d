import Derived.Test.YtgmoggpnfabjfaaDoorG
namespace Go.Proofs.YtgmoggpnfabjfaaDoor
open Go.RowKit
theorem bounds {z : Int} (h : (Lit.int .i64 z).wf = true) : -9223372036854775808 ≤ z ∧ z ≤ 9223372036854775807 := by
  simp [Lit.wf] at h
  have h1 : IntKind.i64.min = -9223372036854775808 := by decide
  have h2 : IntKind.i64.max = 9223372036854775807 := by decide
  omega
theorem numbers_walk (a b k : Int) (w : World) (ha : -9223372036854775808 ≤ a ∧ a ≤ 9223372036854775807) (hb : -9223372036854775808 ≤ b ∧ b ≤ 9223372036854775807) :
    Calls Tryd.prog 3 #[.int .i64 a, .int .i64 b, .int .i64 k] w fun e w' => e = .returned (.bool true) ∧ Below w.heap.size w w' := by
  obtain ⟨a1, a2⟩ := ha
  obtain ⟨b1, b2⟩ := hb
  by_cases h0 : k < 0 ∨ 6 ≤ k
  · exact numbers_out a b k h0 w
  · obtain rfl | rfl | rfl | rfl | rfl | rfl : k = 0 ∨ k = 1 ∨ k = 2 ∨ k = 3 ∨ k = 4 ∨ k = 5 := by omega
    · exact numbers_eq a b a1 (by omega) b1 (by omega) w
    · exact numbers_ne a b a1 (by omega) b1 (by omega) w
    · exact numbers_lt a b a1 (by omega) b1 (by omega) w
    · exact numbers_le a b a1 (by omega) b1 (by omega) w
    · exact numbers_gt a b a1 (by omega) b1 (by omega) w
    · exact numbers_ge a b a1 (by omega) b1 (by omega) w
end Go.Proofs.YtgmoggpnfabjfaaDoor
