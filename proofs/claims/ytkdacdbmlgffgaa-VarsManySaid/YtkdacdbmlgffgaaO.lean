import Derived.Test.YtkdacdbmlgffgaaN
import Derived.StillTailTactics
namespace Go.Proofs.Ytkdacdbmlgffgaa
open Go.RowKit
set_option linter.unusedVariables false

theorem VAt.new (w : World) (T : TypeId) (B : Nat) (hB : B ≤ w.heap.size) : VAt (w.alloc (.cells #[.slice none 0 0] T)) T B w.heap.size (.slice none 0 0) [] :=
  ⟨heap_alloc_new w _, World.ownsRow_nil _ _ _ _, hB, by simp [Value.ownBlock]⟩
theorem Moved.bel {T : TypeId} {B g : Nat} {v : Value} {L L0 : List Pr} {w w' : World} (h : VAt w T B g v L0) (hm : Moved T B g v L w w') (hB : B ≤ w.heap.size) : Below B w w' := by
  obtain ⟨v', _, hO, _⟩ := hm
  refine hO.below (fun k hk => ?_) hB
  rcases hk with rfl | hk
  · exact h.le
  · exact (h.row.lt k hk).1
theorem num_any (T : Int) (w : World) : Calls Try.prog 10 #[.int .i64 T] w fun e w' => e = .returned (.int .i64 T) ∧ w' = w := by
  go_enter Try.func10, Try.ntmps10
  go_wp2_with fail
  go_ret
  exact ⟨rfl, rfl⟩
def sA : ByteArray := ⟨#[97]⟩
def s1 : ByteArray := ⟨#[49]⟩
theorem al1 : setE [] sA s1 = 0 := by decide +kernel
theorem al2 : setR [] sA s1 = [⟨sA, s1⟩] := by decide +kernel
theorem al3 : getL [⟨sA, s1⟩] sA.data.toList = ⟨#[49]⟩ := by decide +kernel
theorem al4 : has [⟨sA, s1⟩] sA.data.toList = true := by decide +kernel
theorem al5 : okName ⟨#[97, 49]⟩ = true := by decide +kernel
theorem al6 : okName ⟨#[49, 97]⟩ = false := by decide +kernel
set_option maxRecDepth 100000 in
set_option maxHeartbeats 2000000 in
theorem alive_any (w : World) : Calls Try.prog 6 #[] w fun e w' => e = .returned (.bool true) ∧ Below w.heap.size w w' := by
  have hB0 : Below w.heap.size w (w.alloc (.cells #[.slice none 0 0] 26)) := (Below.refl _ _).alloc (Nat.le_refl _) _
  have hV0 := VAt.new w 26 w.heap.size (Nat.le_refl _)
  have hs := Set_any w.heap.size _ [] sA s1 w.heap.size _ (by simp) (by decide) hB0.size (by simp) hV0
  rw [al1, al2] at hs
  have HS := Lib.hid hs
  have HG := Lib.hid (fun w' v' (h : VAt w' 26 w.heap.size w.heap.size v' [⟨sA, s1⟩]) => Get_any w.heap.size v' [⟨sA, s1⟩] sA w.heap.size w' (by simp) (by simp) h)
  rw [al3, al4] at HG
  have HN1 := Lib.hid (fun w => VName_any ⟨#[97, 49]⟩ w (by decide))
  have HN2 := Lib.hid (fun w => VName_any ⟨#[49, 97]⟩ w (by decide))
  rw [al5] at HN1
  rw [al6] at HN2
  have HB0 := Lib.hid hB0
  have HV0 := Lib.hid hV0
  clear hs hB0 hV0
  go_enter Try.func6, Try.ntmps6
  go_wp2_with fail
  refine HS.out.mono ?_
  rintro e w1 ⟨rfl, hm⟩
  have HB1 := Lib.hid (HB0.out.trans (hm.bel HV0.out HB0.out.size))
  obtain ⟨v1, hV1, _⟩ := hm
  have HV1 := Lib.hid hV1
  clear hV1
  simp only []
  go_wp2_with fail
  refine (HG.out _ _ HV1.out).mono ?_
  rintro e w2 ⟨rfl, hb⟩
  have HB2 := Lib.hid (HB1.out.trans (hb.mono HB1.out.size))
  clear hb
  simp only []
  go_wp2_with (first | (go_at_call 10; refine (num_any _ _).mono ?_; rintro e w' ⟨rfl, h⟩; obtain rfl := h.symm) | (go_at_call 14; (with_reducible refine (HN1.out _).mono ?_); rintro e w' ⟨rfl, h⟩; obtain rfl := h.symm) | (go_at_call 14; (with_reducible refine (HN2.out _).mono ?_); rintro e w' ⟨rfl, h⟩; obtain rfl := h.symm))
  go_ret
  exact ⟨rfl, HB2.out⟩
end Go.Proofs.Ytkdacdbmlgffgaa
