import Derived.Test.YthpmdgkhpigofaaAM
namespace Go.Proofs.Ythpmdgkhpigofaa
open Go.RowKit Go.Sort Go.Lib

set_option maxRecDepth 100000 in
set_option maxHeartbeats 2000000 in
theorem Names_empty (p : ByteArray) (A : Option Addr) (c : Nat) (w : World) (hp : p.size ≤ 100000) :
    Calls Try.prog 14 #[.string p, .slice A 0 c] w fun e w' => ∃ v', e = .returned v' ∧ SlS w' v' [] ∧ Below w.heap.size w w' := by
  obtain ⟨a, ha⟩ : ∃ a, hasPrefix p.data.toList [46] = a := ⟨_, rfl⟩
  obtain ⟨b, hb⟩ : ∃ b, hasPrefix p.data.toList [92, 46] = b := ⟨_, rfl⟩
  have HA := Lib.hid ha
  have HBB := Lib.hid hb
  clear ha hb
  go_enter Try.func14, Try.ntmps14
  go_wp2_with fail
  refine (pieces_core p _ hp _ rfl).mono ?_
  rintro e w1 ⟨v, ps, rfl, hown, hlt, hsem, hlen, hB⟩
  have HB1 := Lib.hid hB
  clear hsem hown hlt hB
  go_wp2_with fail
  refine (Try.strings_HasPrefix _ _ _).mono ?_
  rintro e w1' ⟨rfl, hw1⟩
  obtain rfl := hw1.symm
  rw [show hasPrefix p.data.toList (⟨#[46]⟩ : ByteArray).data.toList = a from HA.out]
  cases a
  · go_wp2_with fail
    refine (Try.strings_HasPrefix _ _ _).mono ?_
    rintro e w1' ⟨rfl, hw1⟩
    obtain rfl := hw1.symm
    rw [show hasPrefix p.data.toList (⟨#[92, 46]⟩ : ByteArray).data.toList = b from HBB.out]
    go_wp2_with fail
    go_loop [7, 20] (fun v a => v = .slice none 0 0 ∧ a = .int .i64 0) (fun _ _ => 0)
    case atStart => exact ⟨rfl, rfl⟩
    case round =>
      obtain ⟨rfl, rfl⟩ := hrel
      go_wp2_with fail
      refine (Try.slices_Sort_string_none none 0 w1).mono ?_
      rintro e w2 ⟨rfl, hw2⟩
      obtain rfl := hw2.symm
      go_wp2_with fail
      refine (Try.slices_Compact_string_empty none 0 w1).mono ?_
      rintro e w2 ⟨rfl, hw2⟩
      obtain rfl := hw2.symm
      go_wp2_with fail
      go_ret
      exact ⟨_, rfl, .inl ⟨rfl, rfl⟩, HB1.out⟩
  · go_wp2_with fail
    go_loop [7, 20] (fun v a => v = .slice none 0 0 ∧ a = .int .i64 0) (fun _ _ => 0)
    case atStart => exact ⟨rfl, rfl⟩
    case round =>
      obtain ⟨rfl, rfl⟩ := hrel
      go_wp2_with fail
      refine (Try.slices_Sort_string_none none 0 w1).mono ?_
      rintro e w2 ⟨rfl, hw2⟩
      obtain rfl := hw2.symm
      go_wp2_with fail
      refine (Try.slices_Compact_string_empty none 0 w1).mono ?_
      rintro e w2 ⟨rfl, hw2⟩
      obtain rfl := hw2.symm
      go_wp2_with fail
      go_ret
      exact ⟨_, rfl, .inl ⟨rfl, rfl⟩, HB1.out⟩
end Go.Proofs.Ythpmdgkhpigofaa
