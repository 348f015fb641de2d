import Derived.Test.YtleflcpdaapddaaH
import Derived.Laws.AppendOwnNone
namespace Go.Proofs.Ytleflcpdaapddaa
open Go.RowKit

set_option maxRecDepth 100000 in
set_option maxHeartbeats 4000000 in
theorem swap_walk_nil (x t : ByteArray) (w : World) (hxm : x.size ≤ maxLen) (htm : t.size ≤ maxLen) :
    Calls Try.prog 4 #[.slice none 0 0, .string x, .string t] w fun e w' => e = .returned (.bool true) ∧ Below w.heap.size w w' := by
  unfold maxLen at hxm htm
  obtain ⟨i9, hi9, hz9, hs9, hb9⟩ := info_parts info9
  have hS : ∀ (w : World) (A : Option Addr) (f : Nat → ByteArray), Strs w A 0 f := fun _ _ _ h => absurd h (by omega)
  go_enter Try.func4, Try.ntmps4
  go_wp2_with fail
  refine (alive_any _).mono ?_
  rintro e w1 ⟨rfl, m1, rfl⟩
  by_cases hx : x.size ≤ 40
  · by_cases ht : t.size ≤ 40
    · have hB1 : Below w.heap.size w (w.drewN m1) := below_drewN (Below.refl _ w) m1
      have HB1 := Lib.hid hB1
      have HS := Lib.hid hS
      clear hB1 hS
      go_wp2_with (at_builtin; refine wpList_append_own_none rfl _ _ 22 rfl w.heap.size 9 i9 1 Try.underlying22 hi9 _ 0 [] rfl (World.ownsRow_nil _ _ _ _) rfl ?_)
      go_wp2_with fail
      refine (Swap_any none 0 0 (fun _ => ⟨#[]⟩) x t _ (by omega) (fun k => Nat.zero_le _) (by omega) (HS.out _ _ _)).mono ?_
      rintro e w2 ⟨A2, c2, rfl, _, hB2⟩
      have hBw2 : Below w.heap.size w w2 := HB1.out.trans (hB2.mono HB1.out.size)
      clear hB2
      go_wp2_with fail
      refine (RefSwap_any none 0 0 (fun _ => ⟨#[]⟩) x t _ (by omega) (fun k => Nat.zero_le _) (by omega) (HS.out _ _ _)).mono ?_
      rintro e w3 ⟨A3, c3, rfl, _, hB3⟩
      have hBw3 : Below w.heap.size w w3 := hBw2.trans (hB3.mono hBw2.size)
      clear hB3 hBw2
      go_wp2_with fail
      refine (Same_any A2 A3 0 c2 c3 (fun _ => ⟨#[]⟩) _ (by omega) (HS.out _ _ _) (HS.out _ _ _)).mono ?_
      rintro e w4 ⟨rfl, m4, rfl⟩
      have HB := Lib.hid (below_drewN hBw3 m4)
      clear hBw3
      go_wp2_with fail
      go_loopw [9] (fun i wr => i = .int .i64 0 ∧ wr = w3.drewN m4) (fun _ _ => 0)
      case atStart => exact ⟨rfl, rfl⟩
      case round =>
        obtain ⟨rfl, rfl⟩ := hrel
        go_wp2_with fail
        refine (Swap_any A2 0 c2 (fun _ => ⟨#[]⟩) t x _ (by omega) (fun k => Nat.zero_le _) (by omega) (HS.out _ _ _)).mono ?_
        rintro e w5 ⟨A5, c5, rfl, _, hB5⟩
        have hBw5 : Below w.heap.size w w5 := HB.out.trans (hB5.mono HB.out.size)
        clear hB5
        go_wp2_with fail
        refine (Same_any A5 none 0 c5 0 (fun _ => ⟨#[]⟩) _ (by omega) (HS.out _ _ _) (HS.out _ _ _)).mono ?_
        rintro e w6 ⟨rfl, m6, rfl⟩
        go_wp2_with fail
        go_ret
        exact ⟨rfl, below_drewN hBw5 _⟩
    · go_wp2_with fail
      go_ret
      exact ⟨rfl, below_drewN (Below.refl _ _) _⟩
  · go_wp2_with fail
    go_ret
    exact ⟨rfl, below_drewN (Below.refl _ _) _⟩
end Go.Proofs.Ytleflcpdaapddaa
