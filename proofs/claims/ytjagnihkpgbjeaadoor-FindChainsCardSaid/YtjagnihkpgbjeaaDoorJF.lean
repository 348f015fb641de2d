import Derived.Test.YtjagnihkpgbjeaaDoorJE
namespace Go.Proofs.YtjagnihkpgbjeaaDoor
open Go.RowKit Go.Maps Go.ChangeMaps
set_option linter.unusedVariables false
/-! alive of find's laws. -/
def ruC : Rl := ⟨[[37, 46, 111]], [[37, 46, 99]], [[120]]⟩
def rsC : List Rl := [ruC]
def TC : Tr := setF newT [[97, 46, 99]] (some ⟨true, [], 0 + 1⟩)
def wdC (w : World) : World := ((((w.alloc (.cells #[.string ⟨#[37, 46, 111]⟩] 9)).alloc (.cells #[.string ⟨#[37, 46, 99]⟩] 9)).alloc (.cells #[.string ⟨#[120]⟩] 9)).alloc (.cells #[.slice (some ⟨w.heap.size, 0, none⟩) 1 1, .slice (some ⟨w.heap.size + 1, 0, none⟩) 1 1, .slice (some ⟨w.heap.size + 1 + 1, 0, none⟩) 1 1] 48)).alloc (.cells #[.slice none 0 0, .slice (some ⟨w.heap.size + 1 + 1 + 1, 0, none⟩) 1 1] 45)
theorem wdC_facts (w : World) : ∀ W, wdC w = W → RsV W (.slice (some ⟨w.heap.size + 1 + 1 + 1, 0, none⟩) 1 1) rsC ∧ Below w.heap.size w W ∧ w.heap.size + 1 + 1 + 1 + 1 < W.heap.size ∧ W.cell? ⟨w.heap.size + 1 + 1 + 1 + 1, 0, none⟩ = some (.slice none 0 0) ∧ W.cell? ⟨w.heap.size + 1 + 1 + 1 + 1, 1, none⟩ = some (.slice (some ⟨w.heap.size + 1 + 1 + 1, 0, none⟩) 1 1) := by
  intro W hW
  unfold wdC at hW
  obtain ⟨w2, h2⟩ : ∃ w2, w.alloc (.cells #[.string ⟨#[37, 46, 111]⟩] 9) = w2 := ⟨_, rfl⟩
  have s2 : w2.heap.size = w.heap.size + 1 := by rw [← h2, size_alloc]
  obtain ⟨w3, h3⟩ : ∃ w3, w2.alloc (.cells #[.string ⟨#[37, 46, 99]⟩] 9) = w3 := ⟨_, rfl⟩
  have s3 : w3.heap.size = w.heap.size + 1 + 1 := by rw [← h3, size_alloc, s2]
  obtain ⟨w5, h5⟩ : ∃ w5, w3.alloc (.cells #[.string ⟨#[120]⟩] 9) = w5 := ⟨_, rfl⟩
  have s5 : w5.heap.size = w.heap.size + 1 + 1 + 1 := by rw [← h5, size_alloc, s3]
  rw [h2, h3, h5] at hW
  obtain ⟨w4, h4⟩ : ∃ w4, w5.alloc (.cells #[.slice (some ⟨w.heap.size, 0, none⟩) 1 1, .slice (some ⟨w.heap.size + 1, 0, none⟩) 1 1, .slice (some ⟨w.heap.size + 1 + 1, 0, none⟩) 1 1] 48) = w4 := ⟨_, rfl⟩
  have s4 : w4.heap.size = w.heap.size + 1 + 1 + 1 + 1 := by rw [← h4, size_alloc, s5]
  rw [h4] at hW
  have b2 : Below w.heap.size w w2 := h2 ▸ below_alloc _ _
  have b3 : Below w2.heap.size w2 w3 := h3 ▸ below_alloc _ _
  have b5 : Below w3.heap.size w3 w5 := h5 ▸ below_alloc _ _
  have b4 : Below w5.heap.size w5 w4 := h4 ▸ below_alloc _ _
  have t2 : SlS w2 (.slice (some ⟨w.heap.size, 0, none⟩) 1 1) [[37, 46, 111]] := by rw [← h2]; exact sl_new w [37, 46, 111]
  have t3 : SlS w3 (.slice (some ⟨w.heap.size + 1, 0, none⟩) 1 1) [[37, 46, 99]] := by rw [← h3, ← s2]; exact sl_new w2 [37, 46, 99]
  have t5 : SlS w5 (.slice (some ⟨w.heap.size + 1 + 1, 0, none⟩) 1 1) [[120]] := by rw [← h5, ← s3]; exact sl_new w3 [120]
  have hr : RsV w4 (.slice (some ⟨w.heap.size + 1 + 1 + 1, 0, none⟩) 1 1) rsC := by
    refine .inr ⟨w.heap.size + 1 + 1 + 1, 0, 1, rfl, by simp [rsC], by omega, by rw [s4]; omega, fun i hi => ?_⟩
    obtain rfl : i = 0 := by simpa [rsC] using hi
    refine ⟨.slice (some ⟨w.heap.size, 0, none⟩) 1 1, .slice (some ⟨w.heap.size + 1, 0, none⟩) 1 1, .slice (some ⟨w.heap.size + 1 + 1, 0, none⟩) 1 1, ?_, ?_, ?_, ⟨((t2.below b3).below b5).below b4, (t3.below b5).below b4, t5.below b4, by simp [rsC, ruC], by simp [rsC, ruC], by simp [rsC, ruC]⟩⟩
    · rw [← s5, ← h4]; exact cell_new _ _ _ _
    · rw [← s5, ← h4]; exact cell_new _ _ _ _
    · rw [← s5, ← h4]; exact cell_new _ _ _ _
  subst hW
  refine ⟨hr.below (below_alloc _ _), below_trans b2 (below_trans b3 (below_trans b5 (below_trans b4 (below_alloc _ _)))), by rw [size_alloc, s4]; omega, ?_, ?_⟩
  · rw [← s4]; exact cell_new _ _ _ _
  · rw [← s4]; exact cell_new _ _ _ _
theorem nmAC : Nm [97, 46, 99] := (okB_nm (by decide)).1
theorem hitC : rsC.find? (fitF TC rsC [97]) = some ruC := by
  have h : fitF TC rsC [97] ruC = true := by decide
  unfold rsC at h ⊢
  exact List.find?_cons_of_pos h
theorem plC : plainF rsC ([97] ++ [46, 111]) = [] := by
  have h : makesF ruC ([97] ++ [46, 111]) = false := by decide
  unfold plainF rsC
  rw [List.filter_cons, h]; rfl
theorem patC : ∀ r ∈ rsC, r.rc = [] ∨ PatOk [97] [46, 111] r := by
  intro r hr
  obtain rfl : r = ruC := by simpa [rsC] using hr
  exact .inr ⟨rfl, [46, 99], rfl, nmAC, by decide⟩
set_option maxRecDepth 100000 in
set_option maxHeartbeats 4000000 in
theorem alive25 (w : World) (hm : Hm w) : Calls Tryd.prog 25 #[] w fun e w' => e = .returned (.bool true) ∧ Below w.heap.size w w' := by
  have HNEW := Lib.hid (fun w => New_sx 3 10 (by omega) (by omega) (by omega) (by omega) w)
  have HW1 := Lib.hid (fun (B : Nat) (w1 : World) (f : Nat) (h : Sx B w1 0 f ⟨3, 10, 0, 0, 0⟩ newT) => Write_sx (s := [97, 46, 99]) h nmAC rfl ⟨by decide, by decide, by decide, by decide, by decide⟩ (by decide) (by decide) (by decide))
  rw [show pathB [97, 46, 99] = ⟨#[47, 97, 46, 99]⟩ from rfl] at HW1
  have HPL := Lib.hid (fun (B : Nat) (w1 : World) (f : Nat) (b : Nat) (h : Sx B w1 1 f ⟨3, 10, 0 + 1, 0, 0 + 1⟩ TC) (hm1 : Hm w1) (hr : RsV w1 (.slice (some ⟨b, 0, none⟩) 1 1) rsC) => (show Calls Tryd.prog 27 #[.agg #[.slice none 0 0, .slice (some ⟨b, 0, none⟩) 1 1], .pointer (some ⟨f, 0, none⟩), .string ⟨#[47]⟩, .string ⟨#[97, 46, 111]⟩] w1 fun e w' => ∃ nv rv, e = .returned (.agg #[nv, rv, .string ⟨#[97]⟩, .bool true]) ∧ SlS w' nv [[97, 46, 99]] ∧ SlS w' rv [[120]] ∧ Below w1.heap.size w1 w' from by
    obtain ⟨F, h1, _⟩ := h.fs
    exact Plan_hit h1 hm1 (.slice none 0 0) (.slice (some ⟨b, 0, none⟩) 1 1) rsC [97] [46, 111] hr (by simp [rsC]) patC (by decide) (by decide) ⟨_, _, _, rfl⟩ (by decide) plC ruC hitC (by decide)))
  obtain ⟨W, hW⟩ : ∃ W, wdC w = W := ⟨_, rfl⟩
  have HWD := Lib.hid (wdC_facts w W hW)
  unfold wdC at hW
  have HWW := Lib.hid hW
  have HM := Lib.hid (hm.below HWD.out.2.1)
  clear hW hm
  go_enter Tryd.func25, Tryd.ntmps25
  go_wp2_with fail
  rw [HWW.out]
  refine (HNEW.out W).mono ?_
  rintro e w1 ⟨f, rfl, hf, h1⟩
  have HF := Lib.hid hf
  have H1 := Lib.hid h1
  clear hf h1
  simp only []
  go_wp2_with (first
    | (go_at_call 15; refine (HW1.out _ _ _ HF.out).mono ?_; rintro e w2 ⟨rfl, hf2, h2⟩; have HF2 := Lib.hid hf2; have H2 := Lib.hid (H1.out.trans h2); have q0 := (H2.out.cell (p := ⟨w.heap.size + 1 + 1 + 1 + 1, 0, none⟩) HWD.out.2.2.1).trans HWD.out.2.2.2.1; have q1 := (H2.out.cell (p := ⟨w.heap.size + 1 + 1 + 1 + 1, 1, none⟩) HWD.out.2.2.1).trans HWD.out.2.2.2.2; clear h2 hf2; simp only [])
    | (go_at_call 27; refine (HPL.out _ _ _ _ HF2.out (HM.out.below H2.out) (HWD.out.1.below H2.out)).mono ?_; rintro e w3 ⟨nv, rv, rfl, hnv, hrv, h3⟩; have H3 := Lib.hid h3; obtain ⟨na, nc, hnf⟩ := hnv.len; have hnf : nv = .slice na 1 nc := hnf; subst hnf; obtain ⟨ra, rn, rc, rfl⟩ := sl_form hrv; obtain ⟨g, off, rfl, _, hc⟩ := strs_sl hnv (by simp); have hck : w3.cell? ⟨g, off, none⟩ = some (.string ⟨#[97, 46, 99]⟩) := hc 0 (by simp); have hgl := World.block_lt_of_cell? _ _ hck; have hck2 : (w3.alloc (.cells #[.slice (some ⟨g, off, none⟩) 1 nc, .slice ra rn rc, .string ⟨#[97]⟩, .bool true] 50)).cell? ⟨g, off, none⟩ = some (.string ⟨#[97, 46, 99]⟩) := ((below_alloc _ _).cell (p := ⟨g, off, none⟩) hgl).trans hck; clear hnv hrv h3 hc; simp only []))
  go_ret
  exact ⟨rfl, below_trans HWD.out.2.1 (below_trans H2.out (below_trans H3.out (below_alloc _ _)))⟩
end Go.Proofs.YtjagnihkpgbjeaaDoor
