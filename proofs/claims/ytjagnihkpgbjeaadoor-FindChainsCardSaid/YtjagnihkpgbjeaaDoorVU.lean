import Derived.Test.YtjagnihkpgbjeaaDoorVT
import Derived.Lib.SlBytesConst
import Derived.Lib.SmallJoins
namespace Go.Proofs.YtjagnihkpgbjeaaDoor
open Go.RowKit Go.Maps Go.ChangeMaps
set_option linter.unusedVariables false
theorem new_at {w w' : World} {B N f : Nat} {c c' : Cn} {F : Nat → Prop} (h : Fs w B N f c newT F) (hc : c = c') : Fs w B N f c' newT F := hc ▸ h
set_option maxRecDepth 100000 in
set_option maxHeartbeats 4000000 in
theorem alive_any (w : World) : Calls Tryd.prog 12 #[] w fun e w' => e = .returned (.bool true) ∧ Below w.heap.size w w' := by
  have HNEW : Hid (Calls Tryd.prog 13 #[.int .i64 3, .int .i64 10] w fun e w1 => ∃ f, e = .returned (.pointer (some ⟨f, 0, none⟩)) ∧ Fs w1 w.heap.size 0 f ⟨3, 10, 0, 0, 0⟩ newT (fun j => w.heap.size ≤ j ∧ j < w1.heap.size) ∧ Below w.heap.size w w1) := by
    rw [Hid]
    refine (New_any 3 10 w (B := w.heap.size) (N := 0) (Nat.le_refl _)).mono ?_
    rintro e w1 ⟨f, h1, h2, h3⟩
    rw [show min (max (3 : Int) 0) 10000 = 3 by decide, show min (max (10 : Int) 0) 1048576 = 10 by decide] at h2
    exact ⟨f, h1, h2.cap, h3⟩
  have HNUM := Lib.hid num_any
  go_enter Tryd.func12, Tryd.ntmps12
  go_wp2_with (go_at_call 13; refine HNEW.out.mono ?_; rintro e w1 ⟨f, rfl, hf, h1⟩; have HF := Lib.hid hf; have H1 := Lib.hid h1; clear hf h1; have hcv := Lib.run_convert_bytes_const w1 28 5 #[.int .u8 120] 1 1 Tryd.underlying28 Tryd.underlying5; simp only [])
  have hb2 : Below w1.heap.size w1 (w1.alloc (.cells #[.int .u8 120] 5 (1, 2))) := (Below.refl _ _).alloc (Nat.le_refl _) _
  have hF2 := HF.out.below hb2
  have hbin : Bin (w1.alloc (.cells #[.int .u8 120] 5 (1, 2))) (.slice (some ⟨w1.heap.size, 0, none⟩) ([120] : Bz).length 1) [120] := by
    refine ⟨_, _, rfl, fun i hi => ?_⟩
    have hi0 : i = 0 := by simp at hi; omega
    subst hi0
    exact ⟨w1.heap.size, 0, rfl, by simp, World.cell?_alloc_mark w1 #[.int .u8 120] 5 (1, 2) 0⟩
  have hw1 : w.heap.size ≤ w1.heap.size := H1.out.size
  have hE : findE newT ⟨#[47, 97]⟩ = 0 := path_a.2.1 _
  have hn : newT (findL ⟨#[47, 97]⟩) = none := by rw [path_a.1]; rfl
  have HW := Write_new _ ⟨#[47, 97]⟩ false hF2 path_a.2.2 ⟨by decide, by decide, by decide, by decide, by decide⟩ (by decide) (by simp; omega) hE hn [120] _ _ hbin (fun a ha hF => by cases ha; exact Nat.lt_irrefl _ hF.2) (by decide) (by decide) (by decide)
  have HW := Lib.hid HW
  clear hb2 hF2 hbin hE hn
  go_wp2_with (first
    | (go_at_call 15; refine HW.out.mono ?_; rintro e w3 ⟨rfl, hf3, ho3⟩; have HF3 := Lib.hid hf3; have HO3 := Lib.hid ho3; clear hf3 ho3; simp only [])
    | (go_at_call 19; refine (HNUM.out _ _).mono ?_; rintro e w4 ⟨rfl, h4⟩; obtain rfl := h4.symm; simp only [])
    | (go_at_call 36; refine (Clock_any HF3.out).mono ?_; rintro e w4 ⟨rfl, h4⟩; obtain rfl := h4.symm; simp only [])
    | (go_at_call 37; refine (Time_ok HF3.out path_a.2.2 (path_a.2.1 _) (by rw [path_a.1]; exact setF_same _ _ _)).mono ?_; rintro e w4 ⟨rfl, h4⟩; have H4 := Lib.hid h4; clear h4; simp only []))
  go_ret
  have s2 : w.heap.size ≤ (w1.alloc (.cells #[.int .u8 120] 5 (1, 2))).heap.size := by simp; omega
  have b3 : Below w.heap.size (w1.alloc (.cells #[.int .u8 120] 5 (1, 2))) w3 := HO3.out.below (fun k hk => hk.1) s2
  exact ⟨rfl, ((H1.out.alloc hw1 _).trans b3).trans (H4.out.mono (Nat.le_trans s2 HO3.out.size))⟩
end Go.Proofs.YtjagnihkpgbjeaaDoor
