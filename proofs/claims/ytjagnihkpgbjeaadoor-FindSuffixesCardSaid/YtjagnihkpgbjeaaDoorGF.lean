import Derived.Test.YtjagnihkpgbjeaaDoorGD
import Derived.Test.YtjagnihkpgbjeaaDoorVN2
namespace Go.Proofs.YtjagnihkpgbjeaaDoor
open Go.RowKit Go.Maps Go.ChangeMaps
set_option linter.unusedVariables false
theorem cell_new (w : World) (cs : Array Value) (t : TypeId) (i : Nat) : (w.alloc (.cells cs t)).cell? ⟨w.heap.size, i, none⟩ = cs[i]? := by
  simp only [World.cell?, heap_alloc_new w]; rfl
theorem cell_old (w : World) (o : Obj) (b i : Nat) (h : b < w.heap.size) : (w.alloc o).cell? ⟨b, i, none⟩ = w.cell? ⟨b, i, none⟩ := (below_alloc w o).cell (p := ⟨b, i, none⟩) h
theorem size_alloc (w : World) (o : Obj) : (w.alloc o).heap.size = w.heap.size + 1 := by simp
theorem sl_new (w : World) (b : Bs) : SlS (w.alloc (.cells #[.string ⟨b.toArray⟩] 9)) (.slice (some ⟨w.heap.size, 0, none⟩) 1 1) [b] := by
  refine .inr ⟨w.heap.size, 0, 1, rfl, by simp, by omega, by simp, fun i hi => ?_⟩
  obtain rfl : i = 0 := by simpa using hi
  rw [Nat.add_zero, cell_new]; rfl
theorem below_trans {a b c : World} (h1 : Below a.heap.size a b) (h2 : Below b.heap.size b c) : Below a.heap.size a c := h1.trans (h2.mono h1.size)
def phRule : Rl := ⟨[[46, 80, 72, 79, 78, 89]], [[98]], []⟩
/-- What the boxes of the makefile and of the list come to. -/
structure Wd (w W : World) (rv mv : Value) (rs : List Rl) (M : List Bs) : Prop where
  old : Below w.heap.size w W
  rs : RsV W rv rs
  ms : SlS W mv M
  c0 : W.cell? ⟨w.heap.size, 0, none⟩ = some (.slice none 0 0)
  c1 : W.cell? ⟨w.heap.size, 1, none⟩ = some rv
  lt : w.heap.size < W.heap.size
theorem wd_f (w : World) : Wd w (w.alloc (.cells #[.slice none 0 0, .slice none 0 0] 45)) (.slice none 0 0) (.slice none 0 0) [] [] :=
  ⟨below_alloc _ _, rs0 _, sl0 _, cell_new _ _ _ _, cell_new _ _ _ _, by simp⟩
theorem wd_t (w : World) : Wd w ((((w.alloc (.cells #[.slice none 0 0, .slice (some ⟨w.heap.size + 1 + 1 + 1, 0, none⟩) 1 1] 45)).alloc (.cells #[.string ⟨#[46, 80, 72, 79, 78, 89]⟩] 9)).alloc (.cells #[.string ⟨#[98]⟩] 9)).alloc (.cells #[.slice (some ⟨w.heap.size + 1, 0, none⟩) 1 1, .slice (some ⟨w.heap.size + 1 + 1, 0, none⟩) 1 1, .slice none 0 0] 48)) (.slice (some ⟨w.heap.size + 1 + 1 + 1, 0, none⟩) 1 1) (.slice none 0 0) [phRule] [] := by
  obtain ⟨w1, h1⟩ : ∃ w1, w.alloc (.cells #[.slice none 0 0, .slice (some ⟨w.heap.size + 1 + 1 + 1, 0, none⟩) 1 1] 45) = w1 := ⟨_, rfl⟩
  have s1 : w1.heap.size = w.heap.size + 1 := by rw [← h1, size_alloc]
  obtain ⟨w2, h2⟩ : ∃ w2, w1.alloc (.cells #[.string ⟨#[46, 80, 72, 79, 78, 89]⟩] 9) = w2 := ⟨_, rfl⟩
  have s2 : w2.heap.size = w.heap.size + 1 + 1 := by rw [← h2, size_alloc, s1]
  obtain ⟨w3, h3⟩ : ∃ w3, w2.alloc (.cells #[.string ⟨#[98]⟩] 9) = w3 := ⟨_, rfl⟩
  have s3 : w3.heap.size = w.heap.size + 1 + 1 + 1 := by rw [← h3, size_alloc, s2]
  rw [h1, h2, h3]
  obtain ⟨o, ho⟩ : ∃ o, Obj.cells #[.slice (some ⟨w.heap.size + 1, 0, none⟩) 1 1, .slice (some ⟨w.heap.size + 1 + 1, 0, none⟩) 1 1, .slice none 0 0] 48 = o := ⟨_, rfl⟩
  have b1 : Below w.heap.size w w1 := h1 ▸ below_alloc _ _
  have b2 : Below w1.heap.size w1 w2 := h2 ▸ below_alloc _ _
  have b3 : Below w2.heap.size w2 w3 := h3 ▸ below_alloc _ _
  have b4 : Below w3.heap.size w3 (w3.alloc o) := below_alloc _ _
  have t2 : SlS w2 (.slice (some ⟨w.heap.size + 1, 0, none⟩) 1 1) [[46, 80, 72, 79, 78, 89]] := by rw [← h2, ← s1]; exact sl_new w1 [46, 80, 72, 79, 78, 89]
  have t3 : SlS w3 (.slice (some ⟨w.heap.size + 1 + 1, 0, none⟩) 1 1) [[98]] := by rw [← h3, ← s2]; exact sl_new w2 [98]
  have bb := below_trans b2 (below_trans b3 b4)
  have n0 : w.heap.size < w1.heap.size := by omega
  rw [ho]
  refine ⟨below_trans b1 bb, ?_, sl0 _, ?_, ?_, by have := bb.size; omega⟩
  · refine .inr ⟨w.heap.size + 1 + 1 + 1, 0, 1, rfl, by simp, by omega, by rw [size_alloc]; omega, fun i hi => ?_⟩
    obtain rfl : i = 0 := by simpa using hi
    refine ⟨.slice (some ⟨w.heap.size + 1, 0, none⟩) 1 1, .slice (some ⟨w.heap.size + 1 + 1, 0, none⟩) 1 1, .slice none 0 0, ?_, ?_, ?_, ⟨(t2.below b3).below b4, .inl (t3.below b4), sl0 _, by simp [phRule], by simp [phRule], by simp [phRule]⟩⟩
    · rw [← s3, ← ho]; exact cell_new _ _ _ _
    · rw [← s3, ← ho]; exact cell_new _ _ _ _
    · rw [← s3, ← ho]; exact cell_new _ _ _ _
  · rw [bb.cell (p := ⟨w.heap.size, 0, none⟩) n0, ← h1]; exact cell_new _ _ _ _
  · rw [bb.cell (p := ⟨w.heap.size, 1, none⟩) n0, ← h1]; exact cell_new _ _ _ _
theorem Wd.one {w W : World} {rv : Value} {rs : List Rl} {k : Nat} (h : Wd w W rv (.slice none 0 0) rs []) (hk : W.heap.size = k) : Wd w (W.alloc (.cells #[.string ⟨#[98]⟩] 9)) rv (.slice (some ⟨k, 0, none⟩) 1 1) rs [[98]] := by
  subst hk
  have hb := below_alloc W (.cells #[.string ⟨#[98]⟩] 9)
  exact ⟨below_trans h.old hb, h.rs.below hb, sl_new W [98], (hb.cell (p := ⟨w.heap.size, 0, none⟩) h.lt).trans h.c0, (hb.cell (p := ⟨w.heap.size, 1, none⟩) h.lt).trans h.c1, Nat.lt_of_lt_of_le h.lt hb.size⟩

set_option maxRecDepth 100000 in
set_option maxHeartbeats 4000000 in
theorem phony_fff (w : World) : Calls Tryd.prog 11 #[.bool false, .bool false, .bool false] w fun e w' => e = .returned (.bool true) ∧ Below w.heap.size w w' := by
  have HAL := Lib.hid (alive33 w)
  have HNEW := Lib.hid (fun w => New_sx 5 5 (by omega) (by omega) (by omega) (by omega) w)
  have HW2 := Lib.hid (fun (B : Nat) (w1 : World) (f : Nat) (h : Sx B w1 0 f ⟨5, 5, 0, 0, 0⟩ newT) => Write_sx (s := [97]) h nmA rfl ⟨by decide, by decide, by decide, by decide, by decide⟩ (by decide) (by decide) (by decide))
  rw [show pathB [97] = ⟨#[47, 97]⟩ from rfl] at HW2
  have HOB := Lib.hid (fun (B : Nat) (w1 : World) (f : Nat) (rv : Value) (h : Sx B w1 1 f ⟨5, 5, 0 + 1, 0, 0 + 1⟩ (setF newT [[97]] (some ⟨true, [], 0 + 1⟩))) (hr : RsV w1 rv []) => by
    obtain ⟨F, h1, h2⟩ := h.fs
    exact OldB h1 rv (.slice none 0 0) (.slice none 0 0) [] hr (by simp) [] [] (sl0 _) (by simp) (by simp) (sl0 _) (by simp) true (by decide))
  have HOA := Lib.hid (fun (B : Nat) (w1 : World) (f : Nat) (rv nv mv : Value) (h : Sx B w1 1 f ⟨5, 5, 0 + 1, 0, 0 + 1⟩ (setF newT [[97]] (some ⟨true, [], 0 + 1⟩))) (hr : RsV w1 rv []) (hn : SlS w1 nv [[98]]) (hm : SlS w1 mv []) => by
    obtain ⟨F, h1, h2⟩ := h.fs
    exact OldA h1 rv nv mv [] hr (by simp) [[98]] [] hn (by simp) (by intro x hx; simp at hx; subst hx; exact nmB) hm (by simp) false (by decide))
  go_enter Tryd.func11, Tryd.ntmps11
  go_wp2_with (first
    | (go_at_call 33; refine HAL.out.mono ?_; rintro e w0 ⟨rfl, h0⟩; have H0 := Lib.hid h0; clear h0; simp only [])
    | (go_at_call 13; refine (HNEW.out _).mono ?_; rintro e w1 ⟨f, rfl, hf, h1⟩; have HF := Lib.hid hf; have H1 := Lib.hid h1; clear hf h1; simp only [])
    | (go_at_call 15; ((with_reducible refine (HW2.out _ _ _ HF.out).mono ?_)); rintro e w3 ⟨rfl, hf3, h3⟩; have HF3 := Lib.hid hf3; have H3 := Lib.hid h3; have HWD := Lib.hid (wd_f w3); clear h3 hf3; simp only [])
    | (go_at_call 34; ((with_reducible refine (HOA.out _ _ _ _ _ _ (HF5.out.below (below_alloc _ _)) (HR5.out.below (below_alloc _ _)) (sl_new _ [98]) (HM5.out.below (below_alloc _ _))).mono ?_)); rintro e w6 ⟨rfl, h6⟩; have H6 := Lib.hid h6; clear h6; simp only [])
    | (go_at_call 34; ((with_reducible refine (HOB.out _ _ _ _ (HF3.out.below HWD.out.old) HWD.out.rs).mono ?_)); rintro e w5 ⟨rfl, h5⟩; have q0 := (h5.cell (p := ⟨w3.heap.size, 0, none⟩) HWD.out.lt).trans HWD.out.c0; have q1 := (h5.cell (p := ⟨w3.heap.size, 1, none⟩) HWD.out.lt).trans HWD.out.c1; have HF5 := Lib.hid ((HF3.out.below HWD.out.old).below h5); have HR5 := Lib.hid (HWD.out.rs.below h5); have HM5 := Lib.hid (HWD.out.ms.below h5); have H5 := Lib.hid (below_trans HWD.out.old h5); clear h5; simp only []))
  go_ret
  have b5 : Below w0.heap.size w3 w6 := (below_trans H5.out (below_trans (below_alloc _ _) H6.out)).mono HF3.out.le
  exact ⟨rfl, below_trans H0.out (H1.out.trans (H3.out.trans b5))⟩
set_option maxRecDepth 100000 in
set_option maxHeartbeats 4000000 in
theorem phony_fft (w : World) : Calls Tryd.prog 11 #[.bool false, .bool false, .bool true] w fun e w' => e = .returned (.bool true) ∧ Below w.heap.size w w' := by
  have HAL := Lib.hid (alive33 w)
  have HNEW := Lib.hid (fun w => New_sx 5 5 (by omega) (by omega) (by omega) (by omega) w)
  have HW1 := Lib.hid (fun (B : Nat) (w1 : World) (f : Nat) (h : Sx B w1 0 f ⟨5, 5, 0, 0, 0⟩ newT) => Write_sx (s := [98]) h nmB rfl ⟨by decide, by decide, by decide, by decide, by decide⟩ (by decide) (by decide) (by decide))
  have HW2 := Lib.hid (fun (B : Nat) (w1 : World) (f : Nat) (h : Sx B w1 1 f ⟨5, 5, 0 + 1, 0, 0 + 1⟩ (setF newT [[98]] (some ⟨true, [], 0 + 1⟩))) => Write_sx (s := [97]) h nmA rfl ⟨by decide, by decide, by decide, by decide, by decide⟩ (by decide) (by decide) (by decide))
  rw [show pathB [98] = ⟨#[47, 98]⟩ from rfl] at HW1
  rw [show pathB [97] = ⟨#[47, 97]⟩ from rfl] at HW2
  have HOB := Lib.hid (fun (B : Nat) (w1 : World) (f : Nat) (rv : Value) (h : Sx B w1 2 f ⟨5, 5, 0 + 1 + 1, 0, 0 + 1 + 1⟩ (setF (setF newT [[98]] (some ⟨true, [], 0 + 1⟩)) [[97]] (some ⟨true, [], 0 + 1 + 1⟩))) (hr : RsV w1 rv []) => by
    obtain ⟨F, h1, h2⟩ := h.fs
    exact OldB h1 rv (.slice none 0 0) (.slice none 0 0) [] hr (by simp) [] [] (sl0 _) (by simp) (by simp) (sl0 _) (by simp) false (by decide))
  have HOA := Lib.hid (fun (B : Nat) (w1 : World) (f : Nat) (rv nv mv : Value) (h : Sx B w1 2 f ⟨5, 5, 0 + 1 + 1, 0, 0 + 1 + 1⟩ (setF (setF newT [[98]] (some ⟨true, [], 0 + 1⟩)) [[97]] (some ⟨true, [], 0 + 1 + 1⟩))) (hr : RsV w1 rv []) (hn : SlS w1 nv [[98]]) (hm : SlS w1 mv []) => by
    obtain ⟨F, h1, h2⟩ := h.fs
    exact OldA h1 rv nv mv [] hr (by simp) [[98]] [] hn (by simp) (by intro x hx; simp at hx; subst hx; exact nmB) hm (by simp) false (by decide))
  go_enter Tryd.func11, Tryd.ntmps11
  go_wp2_with (first
    | (go_at_call 33; refine HAL.out.mono ?_; rintro e w0 ⟨rfl, h0⟩; have H0 := Lib.hid h0; clear h0; simp only [])
    | (go_at_call 13; refine (HNEW.out _).mono ?_; rintro e w1 ⟨f, rfl, hf, h1⟩; have HF := Lib.hid hf; have H1 := Lib.hid h1; clear hf h1; simp only [])
    | (go_at_call 15; ((with_reducible refine (HW2.out _ _ _ HF2.out).mono ?_)); rintro e w3 ⟨rfl, hf3, h3⟩; have HF3 := Lib.hid hf3; have H3 := Lib.hid h3; have HWD := Lib.hid (wd_f w3); clear h3 hf3; simp only [])
    | (go_at_call 15; ((with_reducible refine (HW1.out _ _ _ HF.out).mono ?_)); rintro e w2 ⟨rfl, hf2, h2⟩; have HF2 := Lib.hid hf2; have H2 := Lib.hid h2; clear h2 hf2; simp only [])
    | (go_at_call 34; ((with_reducible refine (HOA.out _ _ _ _ _ _ (HF5.out.below (below_alloc _ _)) (HR5.out.below (below_alloc _ _)) (sl_new _ [98]) (HM5.out.below (below_alloc _ _))).mono ?_)); rintro e w6 ⟨rfl, h6⟩; have H6 := Lib.hid h6; clear h6; simp only [])
    | (go_at_call 34; ((with_reducible refine (HOB.out _ _ _ _ (HF3.out.below HWD.out.old) HWD.out.rs).mono ?_)); rintro e w5 ⟨rfl, h5⟩; have q0 := (h5.cell (p := ⟨w3.heap.size, 0, none⟩) HWD.out.lt).trans HWD.out.c0; have q1 := (h5.cell (p := ⟨w3.heap.size, 1, none⟩) HWD.out.lt).trans HWD.out.c1; have HF5 := Lib.hid ((HF3.out.below HWD.out.old).below h5); have HR5 := Lib.hid (HWD.out.rs.below h5); have HM5 := Lib.hid (HWD.out.ms.below h5); have H5 := Lib.hid (below_trans HWD.out.old h5); clear h5; simp only []))
  go_ret
  have b5 : Below w0.heap.size w3 w6 := (below_trans H5.out (below_trans (below_alloc _ _) H6.out)).mono HF3.out.le
  exact ⟨rfl, below_trans H0.out (H1.out.trans (H2.out.trans (H3.out.trans b5)))⟩
set_option maxRecDepth 100000 in
set_option maxHeartbeats 4000000 in
theorem phony_ftf (w : World) : Calls Tryd.prog 11 #[.bool false, .bool true, .bool false] w fun e w' => e = .returned (.bool true) ∧ Below w.heap.size w w' := by
  have HAL := Lib.hid (alive33 w)
  have HNEW := Lib.hid (fun w => New_sx 5 5 (by omega) (by omega) (by omega) (by omega) w)
  have HW2 := Lib.hid (fun (B : Nat) (w1 : World) (f : Nat) (h : Sx B w1 0 f ⟨5, 5, 0, 0, 0⟩ newT) => Write_sx (s := [97]) h nmA rfl ⟨by decide, by decide, by decide, by decide, by decide⟩ (by decide) (by decide) (by decide))
  rw [show pathB [97] = ⟨#[47, 97]⟩ from rfl] at HW2
  have HOB := Lib.hid (fun (B : Nat) (w1 : World) (f : Nat) (rv : Value) (h : Sx B w1 1 f ⟨5, 5, 0 + 1, 0, 0 + 1⟩ (setF newT [[97]] (some ⟨true, [], 0 + 1⟩))) (hr : RsV w1 rv []) => by
    obtain ⟨F, h1, h2⟩ := h.fs
    exact OldB h1 rv (.slice none 0 0) (.slice none 0 0) [] hr (by simp) [] [] (sl0 _) (by simp) (by simp) (sl0 _) (by simp) true (by decide))
  have HOA := Lib.hid (fun (B : Nat) (w1 : World) (f : Nat) (rv nv mv : Value) (h : Sx B w1 1 f ⟨5, 5, 0 + 1, 0, 0 + 1⟩ (setF newT [[97]] (some ⟨true, [], 0 + 1⟩))) (hr : RsV w1 rv []) (hn : SlS w1 nv [[98]]) (hm : SlS w1 mv [[98]]) => by
    obtain ⟨F, h1, h2⟩ := h.fs
    exact OldA h1 rv nv mv [] hr (by simp) [[98]] [[98]] hn (by simp) (by intro x hx; simp at hx; subst hx; exact nmB) hm (by simp) true (by decide))
  go_enter Tryd.func11, Tryd.ntmps11
  go_wp2_with (first
    | (go_at_call 33; refine HAL.out.mono ?_; rintro e w0 ⟨rfl, h0⟩; have H0 := Lib.hid h0; clear h0; simp only [])
    | (go_at_call 13; refine (HNEW.out _).mono ?_; rintro e w1 ⟨f, rfl, hf, h1⟩; have HF := Lib.hid hf; have H1 := Lib.hid h1; clear hf h1; simp only [])
    | (go_at_call 15; ((with_reducible refine (HW2.out _ _ _ HF.out).mono ?_)); rintro e w3 ⟨rfl, hf3, h3⟩; have HF3 := Lib.hid hf3; have H3 := Lib.hid h3; have HWD := Lib.hid ((wd_f w3).one (k := w3.heap.size + 1) (by simp only [size_alloc])); clear h3 hf3; simp only [])
    | (go_at_call 34; ((with_reducible refine (HOA.out _ _ _ _ _ _ (HF5.out.below (below_alloc _ _)) (HR5.out.below (below_alloc _ _)) (sl_new _ [98]) (HM5.out.below (below_alloc _ _))).mono ?_)); rintro e w6 ⟨rfl, h6⟩; have H6 := Lib.hid h6; clear h6; simp only [])
    | (go_at_call 34; ((with_reducible refine (HOB.out _ _ _ _ (HF3.out.below HWD.out.old) HWD.out.rs).mono ?_)); rintro e w5 ⟨rfl, h5⟩; have q0 := (h5.cell (p := ⟨w3.heap.size, 0, none⟩) HWD.out.lt).trans HWD.out.c0; have q1 := (h5.cell (p := ⟨w3.heap.size, 1, none⟩) HWD.out.lt).trans HWD.out.c1; have HF5 := Lib.hid ((HF3.out.below HWD.out.old).below h5); have HR5 := Lib.hid (HWD.out.rs.below h5); have HM5 := Lib.hid (HWD.out.ms.below h5); have H5 := Lib.hid (below_trans HWD.out.old h5); clear h5; simp only []))
  go_ret
  have b5 : Below w0.heap.size w3 w6 := (below_trans H5.out (below_trans (below_alloc _ _) H6.out)).mono HF3.out.le
  exact ⟨rfl, below_trans H0.out (H1.out.trans (H3.out.trans b5))⟩
set_option maxRecDepth 100000 in
set_option maxHeartbeats 4000000 in
theorem phony_ftt (w : World) : Calls Tryd.prog 11 #[.bool false, .bool true, .bool true] w fun e w' => e = .returned (.bool true) ∧ Below w.heap.size w w' := by
  have HAL := Lib.hid (alive33 w)
  have HNEW := Lib.hid (fun w => New_sx 5 5 (by omega) (by omega) (by omega) (by omega) w)
  have HW1 := Lib.hid (fun (B : Nat) (w1 : World) (f : Nat) (h : Sx B w1 0 f ⟨5, 5, 0, 0, 0⟩ newT) => Write_sx (s := [98]) h nmB rfl ⟨by decide, by decide, by decide, by decide, by decide⟩ (by decide) (by decide) (by decide))
  have HW2 := Lib.hid (fun (B : Nat) (w1 : World) (f : Nat) (h : Sx B w1 1 f ⟨5, 5, 0 + 1, 0, 0 + 1⟩ (setF newT [[98]] (some ⟨true, [], 0 + 1⟩))) => Write_sx (s := [97]) h nmA rfl ⟨by decide, by decide, by decide, by decide, by decide⟩ (by decide) (by decide) (by decide))
  rw [show pathB [98] = ⟨#[47, 98]⟩ from rfl] at HW1
  rw [show pathB [97] = ⟨#[47, 97]⟩ from rfl] at HW2
  have HOB := Lib.hid (fun (B : Nat) (w1 : World) (f : Nat) (rv : Value) (h : Sx B w1 2 f ⟨5, 5, 0 + 1 + 1, 0, 0 + 1 + 1⟩ (setF (setF newT [[98]] (some ⟨true, [], 0 + 1⟩)) [[97]] (some ⟨true, [], 0 + 1 + 1⟩))) (hr : RsV w1 rv []) => by
    obtain ⟨F, h1, h2⟩ := h.fs
    exact OldB h1 rv (.slice none 0 0) (.slice none 0 0) [] hr (by simp) [] [] (sl0 _) (by simp) (by simp) (sl0 _) (by simp) false (by decide))
  have HOA := Lib.hid (fun (B : Nat) (w1 : World) (f : Nat) (rv nv mv : Value) (h : Sx B w1 2 f ⟨5, 5, 0 + 1 + 1, 0, 0 + 1 + 1⟩ (setF (setF newT [[98]] (some ⟨true, [], 0 + 1⟩)) [[97]] (some ⟨true, [], 0 + 1 + 1⟩))) (hr : RsV w1 rv []) (hn : SlS w1 nv [[98]]) (hm : SlS w1 mv [[98]]) => by
    obtain ⟨F, h1, h2⟩ := h.fs
    exact OldA h1 rv nv mv [] hr (by simp) [[98]] [[98]] hn (by simp) (by intro x hx; simp at hx; subst hx; exact nmB) hm (by simp) false (by decide))
  go_enter Tryd.func11, Tryd.ntmps11
  go_wp2_with (first
    | (go_at_call 33; refine HAL.out.mono ?_; rintro e w0 ⟨rfl, h0⟩; have H0 := Lib.hid h0; clear h0; simp only [])
    | (go_at_call 13; refine (HNEW.out _).mono ?_; rintro e w1 ⟨f, rfl, hf, h1⟩; have HF := Lib.hid hf; have H1 := Lib.hid h1; clear hf h1; simp only [])
    | (go_at_call 15; ((with_reducible refine (HW2.out _ _ _ HF2.out).mono ?_)); rintro e w3 ⟨rfl, hf3, h3⟩; have HF3 := Lib.hid hf3; have H3 := Lib.hid h3; have HWD := Lib.hid ((wd_f w3).one (k := w3.heap.size + 1) (by simp only [size_alloc])); clear h3 hf3; simp only [])
    | (go_at_call 15; ((with_reducible refine (HW1.out _ _ _ HF.out).mono ?_)); rintro e w2 ⟨rfl, hf2, h2⟩; have HF2 := Lib.hid hf2; have H2 := Lib.hid h2; clear h2 hf2; simp only [])
    | (go_at_call 34; ((with_reducible refine (HOA.out _ _ _ _ _ _ (HF5.out.below (below_alloc _ _)) (HR5.out.below (below_alloc _ _)) (sl_new _ [98]) (HM5.out.below (below_alloc _ _))).mono ?_)); rintro e w6 ⟨rfl, h6⟩; have H6 := Lib.hid h6; clear h6; simp only [])
    | (go_at_call 34; ((with_reducible refine (HOB.out _ _ _ _ (HF3.out.below HWD.out.old) HWD.out.rs).mono ?_)); rintro e w5 ⟨rfl, h5⟩; have q0 := (h5.cell (p := ⟨w3.heap.size, 0, none⟩) HWD.out.lt).trans HWD.out.c0; have q1 := (h5.cell (p := ⟨w3.heap.size, 1, none⟩) HWD.out.lt).trans HWD.out.c1; have HF5 := Lib.hid ((HF3.out.below HWD.out.old).below h5); have HR5 := Lib.hid (HWD.out.rs.below h5); have HM5 := Lib.hid (HWD.out.ms.below h5); have H5 := Lib.hid (below_trans HWD.out.old h5); clear h5; simp only []))
  go_ret
  have b5 : Below w0.heap.size w3 w6 := (below_trans H5.out (below_trans (below_alloc _ _) H6.out)).mono HF3.out.le
  exact ⟨rfl, below_trans H0.out (H1.out.trans (H2.out.trans (H3.out.trans b5)))⟩
set_option maxRecDepth 100000 in
set_option maxHeartbeats 4000000 in
theorem phony_tff (w : World) : Calls Tryd.prog 11 #[.bool true, .bool false, .bool false] w fun e w' => e = .returned (.bool true) ∧ Below w.heap.size w w' := by
  have HAL := Lib.hid (alive33 w)
  have HNEW := Lib.hid (fun w => New_sx 5 5 (by omega) (by omega) (by omega) (by omega) w)
  have HW2 := Lib.hid (fun (B : Nat) (w1 : World) (f : Nat) (h : Sx B w1 0 f ⟨5, 5, 0, 0, 0⟩ newT) => Write_sx (s := [97]) h nmA rfl ⟨by decide, by decide, by decide, by decide, by decide⟩ (by decide) (by decide) (by decide))
  rw [show pathB [97] = ⟨#[47, 97]⟩ from rfl] at HW2
  have HOB := Lib.hid (fun (B : Nat) (w1 : World) (f : Nat) (rv : Value) (h : Sx B w1 1 f ⟨5, 5, 0 + 1, 0, 0 + 1⟩ (setF newT [[97]] (some ⟨true, [], 0 + 1⟩))) (hr : RsV w1 rv [phRule]) => by
    obtain ⟨F, h1, h2⟩ := h.fs
    exact OldB h1 rv (.slice none 0 0) (.slice none 0 0) [phRule] hr (by simp) [] [] (sl0 _) (by simp) (by simp) (sl0 _) (by simp) true (by decide))
  have HOA := Lib.hid (fun (B : Nat) (w1 : World) (f : Nat) (rv nv mv : Value) (h : Sx B w1 1 f ⟨5, 5, 0 + 1, 0, 0 + 1⟩ (setF newT [[97]] (some ⟨true, [], 0 + 1⟩))) (hr : RsV w1 rv [phRule]) (hn : SlS w1 nv [[98]]) (hm : SlS w1 mv []) => by
    obtain ⟨F, h1, h2⟩ := h.fs
    exact OldA h1 rv nv mv [phRule] hr (by simp) [[98]] [] hn (by simp) (by intro x hx; simp at hx; subst hx; exact nmB) hm (by simp) false (by decide))
  go_enter Tryd.func11, Tryd.ntmps11
  go_wp2_with (first
    | (go_at_call 33; refine HAL.out.mono ?_; rintro e w0 ⟨rfl, h0⟩; have H0 := Lib.hid h0; clear h0; simp only [])
    | (go_at_call 13; refine (HNEW.out _).mono ?_; rintro e w1 ⟨f, rfl, hf, h1⟩; have HF := Lib.hid hf; have H1 := Lib.hid h1; clear hf h1; simp only [])
    | (go_at_call 15; ((with_reducible refine (HW2.out _ _ _ HF.out).mono ?_)); rintro e w3 ⟨rfl, hf3, h3⟩; have HF3 := Lib.hid hf3; have H3 := Lib.hid h3; have HWD := Lib.hid (wd_t w3); clear h3 hf3; simp only [])
    | (go_at_call 34; ((with_reducible refine (HOA.out _ _ _ _ _ _ (HF5.out.below (below_alloc _ _)) (HR5.out.below (below_alloc _ _)) (sl_new _ [98]) (HM5.out.below (below_alloc _ _))).mono ?_)); rintro e w6 ⟨rfl, h6⟩; have H6 := Lib.hid h6; clear h6; simp only [])
    | (go_at_call 34; ((with_reducible refine (HOB.out _ _ _ _ (HF3.out.below HWD.out.old) HWD.out.rs).mono ?_)); rintro e w5 ⟨rfl, h5⟩; have q0 := (h5.cell (p := ⟨w3.heap.size, 0, none⟩) HWD.out.lt).trans HWD.out.c0; have q1 := (h5.cell (p := ⟨w3.heap.size, 1, none⟩) HWD.out.lt).trans HWD.out.c1; have HF5 := Lib.hid ((HF3.out.below HWD.out.old).below h5); have HR5 := Lib.hid (HWD.out.rs.below h5); have HM5 := Lib.hid (HWD.out.ms.below h5); have H5 := Lib.hid (below_trans HWD.out.old h5); clear h5; simp only []))
  go_ret
  have b5 : Below w0.heap.size w3 w6 := (below_trans H5.out (below_trans (below_alloc _ _) H6.out)).mono HF3.out.le
  exact ⟨rfl, below_trans H0.out (H1.out.trans (H3.out.trans b5))⟩
set_option maxRecDepth 100000 in
set_option maxHeartbeats 4000000 in
theorem phony_tft (w : World) : Calls Tryd.prog 11 #[.bool true, .bool false, .bool true] w fun e w' => e = .returned (.bool true) ∧ Below w.heap.size w w' := by
  have HAL := Lib.hid (alive33 w)
  have HNEW := Lib.hid (fun w => New_sx 5 5 (by omega) (by omega) (by omega) (by omega) w)
  have HW1 := Lib.hid (fun (B : Nat) (w1 : World) (f : Nat) (h : Sx B w1 0 f ⟨5, 5, 0, 0, 0⟩ newT) => Write_sx (s := [98]) h nmB rfl ⟨by decide, by decide, by decide, by decide, by decide⟩ (by decide) (by decide) (by decide))
  have HW2 := Lib.hid (fun (B : Nat) (w1 : World) (f : Nat) (h : Sx B w1 1 f ⟨5, 5, 0 + 1, 0, 0 + 1⟩ (setF newT [[98]] (some ⟨true, [], 0 + 1⟩))) => Write_sx (s := [97]) h nmA rfl ⟨by decide, by decide, by decide, by decide, by decide⟩ (by decide) (by decide) (by decide))
  rw [show pathB [98] = ⟨#[47, 98]⟩ from rfl] at HW1
  rw [show pathB [97] = ⟨#[47, 97]⟩ from rfl] at HW2
  have HOB := Lib.hid (fun (B : Nat) (w1 : World) (f : Nat) (rv : Value) (h : Sx B w1 2 f ⟨5, 5, 0 + 1 + 1, 0, 0 + 1 + 1⟩ (setF (setF newT [[98]] (some ⟨true, [], 0 + 1⟩)) [[97]] (some ⟨true, [], 0 + 1 + 1⟩))) (hr : RsV w1 rv [phRule]) => by
    obtain ⟨F, h1, h2⟩ := h.fs
    exact OldB h1 rv (.slice none 0 0) (.slice none 0 0) [phRule] hr (by simp) [] [] (sl0 _) (by simp) (by simp) (sl0 _) (by simp) true (by decide))
  have HOA := Lib.hid (fun (B : Nat) (w1 : World) (f : Nat) (rv nv mv : Value) (h : Sx B w1 2 f ⟨5, 5, 0 + 1 + 1, 0, 0 + 1 + 1⟩ (setF (setF newT [[98]] (some ⟨true, [], 0 + 1⟩)) [[97]] (some ⟨true, [], 0 + 1 + 1⟩))) (hr : RsV w1 rv [phRule]) (hn : SlS w1 nv [[98]]) (hm : SlS w1 mv []) => by
    obtain ⟨F, h1, h2⟩ := h.fs
    exact OldA h1 rv nv mv [phRule] hr (by simp) [[98]] [] hn (by simp) (by intro x hx; simp at hx; subst hx; exact nmB) hm (by simp) false (by decide))
  go_enter Tryd.func11, Tryd.ntmps11
  go_wp2_with (first
    | (go_at_call 33; refine HAL.out.mono ?_; rintro e w0 ⟨rfl, h0⟩; have H0 := Lib.hid h0; clear h0; simp only [])
    | (go_at_call 13; refine (HNEW.out _).mono ?_; rintro e w1 ⟨f, rfl, hf, h1⟩; have HF := Lib.hid hf; have H1 := Lib.hid h1; clear hf h1; simp only [])
    | (go_at_call 15; ((with_reducible refine (HW2.out _ _ _ HF2.out).mono ?_)); rintro e w3 ⟨rfl, hf3, h3⟩; have HF3 := Lib.hid hf3; have H3 := Lib.hid h3; have HWD := Lib.hid (wd_t w3); clear h3 hf3; simp only [])
    | (go_at_call 15; ((with_reducible refine (HW1.out _ _ _ HF.out).mono ?_)); rintro e w2 ⟨rfl, hf2, h2⟩; have HF2 := Lib.hid hf2; have H2 := Lib.hid h2; clear h2 hf2; simp only [])
    | (go_at_call 34; ((with_reducible refine (HOA.out _ _ _ _ _ _ (HF5.out.below (below_alloc _ _)) (HR5.out.below (below_alloc _ _)) (sl_new _ [98]) (HM5.out.below (below_alloc _ _))).mono ?_)); rintro e w6 ⟨rfl, h6⟩; have H6 := Lib.hid h6; clear h6; simp only [])
    | (go_at_call 34; ((with_reducible refine (HOB.out _ _ _ _ (HF3.out.below HWD.out.old) HWD.out.rs).mono ?_)); rintro e w5 ⟨rfl, h5⟩; have q0 := (h5.cell (p := ⟨w3.heap.size, 0, none⟩) HWD.out.lt).trans HWD.out.c0; have q1 := (h5.cell (p := ⟨w3.heap.size, 1, none⟩) HWD.out.lt).trans HWD.out.c1; have HF5 := Lib.hid ((HF3.out.below HWD.out.old).below h5); have HR5 := Lib.hid (HWD.out.rs.below h5); have HM5 := Lib.hid (HWD.out.ms.below h5); have H5 := Lib.hid (below_trans HWD.out.old h5); clear h5; simp only []))
  go_ret
  have b5 : Below w0.heap.size w3 w6 := (below_trans H5.out (below_trans (below_alloc _ _) H6.out)).mono HF3.out.le
  exact ⟨rfl, below_trans H0.out (H1.out.trans (H2.out.trans (H3.out.trans b5)))⟩
set_option maxRecDepth 100000 in
set_option maxHeartbeats 4000000 in
theorem phony_ttf (w : World) : Calls Tryd.prog 11 #[.bool true, .bool true, .bool false] w fun e w' => e = .returned (.bool true) ∧ Below w.heap.size w w' := by
  have HAL := Lib.hid (alive33 w)
  have HNEW := Lib.hid (fun w => New_sx 5 5 (by omega) (by omega) (by omega) (by omega) w)
  have HW2 := Lib.hid (fun (B : Nat) (w1 : World) (f : Nat) (h : Sx B w1 0 f ⟨5, 5, 0, 0, 0⟩ newT) => Write_sx (s := [97]) h nmA rfl ⟨by decide, by decide, by decide, by decide, by decide⟩ (by decide) (by decide) (by decide))
  rw [show pathB [97] = ⟨#[47, 97]⟩ from rfl] at HW2
  have HOB := Lib.hid (fun (B : Nat) (w1 : World) (f : Nat) (rv : Value) (h : Sx B w1 1 f ⟨5, 5, 0 + 1, 0, 0 + 1⟩ (setF newT [[97]] (some ⟨true, [], 0 + 1⟩))) (hr : RsV w1 rv [phRule]) => by
    obtain ⟨F, h1, h2⟩ := h.fs
    exact OldB h1 rv (.slice none 0 0) (.slice none 0 0) [phRule] hr (by simp) [] [] (sl0 _) (by simp) (by simp) (sl0 _) (by simp) true (by decide))
  have HOA := Lib.hid (fun (B : Nat) (w1 : World) (f : Nat) (rv nv mv : Value) (h : Sx B w1 1 f ⟨5, 5, 0 + 1, 0, 0 + 1⟩ (setF newT [[97]] (some ⟨true, [], 0 + 1⟩))) (hr : RsV w1 rv [phRule]) (hn : SlS w1 nv [[98]]) (hm : SlS w1 mv [[98]]) => by
    obtain ⟨F, h1, h2⟩ := h.fs
    exact OldA h1 rv nv mv [phRule] hr (by simp) [[98]] [[98]] hn (by simp) (by intro x hx; simp at hx; subst hx; exact nmB) hm (by simp) true (by decide))
  go_enter Tryd.func11, Tryd.ntmps11
  go_wp2_with (first
    | (go_at_call 33; refine HAL.out.mono ?_; rintro e w0 ⟨rfl, h0⟩; have H0 := Lib.hid h0; clear h0; simp only [])
    | (go_at_call 13; refine (HNEW.out _).mono ?_; rintro e w1 ⟨f, rfl, hf, h1⟩; have HF := Lib.hid hf; have H1 := Lib.hid h1; clear hf h1; simp only [])
    | (go_at_call 15; ((with_reducible refine (HW2.out _ _ _ HF.out).mono ?_)); rintro e w3 ⟨rfl, hf3, h3⟩; have HF3 := Lib.hid hf3; have H3 := Lib.hid h3; have HWD := Lib.hid ((wd_t w3).one (k := w3.heap.size + 1 + 1 + 1 + 1) (by simp only [size_alloc])); clear h3 hf3; simp only [])
    | (go_at_call 34; ((with_reducible refine (HOA.out _ _ _ _ _ _ (HF5.out.below (below_alloc _ _)) (HR5.out.below (below_alloc _ _)) (sl_new _ [98]) (HM5.out.below (below_alloc _ _))).mono ?_)); rintro e w6 ⟨rfl, h6⟩; have H6 := Lib.hid h6; clear h6; simp only [])
    | (go_at_call 34; ((with_reducible refine (HOB.out _ _ _ _ (HF3.out.below HWD.out.old) HWD.out.rs).mono ?_)); rintro e w5 ⟨rfl, h5⟩; have q0 := (h5.cell (p := ⟨w3.heap.size, 0, none⟩) HWD.out.lt).trans HWD.out.c0; have q1 := (h5.cell (p := ⟨w3.heap.size, 1, none⟩) HWD.out.lt).trans HWD.out.c1; have HF5 := Lib.hid ((HF3.out.below HWD.out.old).below h5); have HR5 := Lib.hid (HWD.out.rs.below h5); have HM5 := Lib.hid (HWD.out.ms.below h5); have H5 := Lib.hid (below_trans HWD.out.old h5); clear h5; simp only []))
  go_ret
  have b5 : Below w0.heap.size w3 w6 := (below_trans H5.out (below_trans (below_alloc _ _) H6.out)).mono HF3.out.le
  exact ⟨rfl, below_trans H0.out (H1.out.trans (H3.out.trans b5))⟩
set_option maxRecDepth 100000 in
set_option maxHeartbeats 4000000 in
theorem phony_ttt (w : World) : Calls Tryd.prog 11 #[.bool true, .bool true, .bool true] w fun e w' => e = .returned (.bool true) ∧ Below w.heap.size w w' := by
  have HAL := Lib.hid (alive33 w)
  have HNEW := Lib.hid (fun w => New_sx 5 5 (by omega) (by omega) (by omega) (by omega) w)
  have HW1 := Lib.hid (fun (B : Nat) (w1 : World) (f : Nat) (h : Sx B w1 0 f ⟨5, 5, 0, 0, 0⟩ newT) => Write_sx (s := [98]) h nmB rfl ⟨by decide, by decide, by decide, by decide, by decide⟩ (by decide) (by decide) (by decide))
  have HW2 := Lib.hid (fun (B : Nat) (w1 : World) (f : Nat) (h : Sx B w1 1 f ⟨5, 5, 0 + 1, 0, 0 + 1⟩ (setF newT [[98]] (some ⟨true, [], 0 + 1⟩))) => Write_sx (s := [97]) h nmA rfl ⟨by decide, by decide, by decide, by decide, by decide⟩ (by decide) (by decide) (by decide))
  rw [show pathB [98] = ⟨#[47, 98]⟩ from rfl] at HW1
  rw [show pathB [97] = ⟨#[47, 97]⟩ from rfl] at HW2
  have HOB := Lib.hid (fun (B : Nat) (w1 : World) (f : Nat) (rv : Value) (h : Sx B w1 2 f ⟨5, 5, 0 + 1 + 1, 0, 0 + 1 + 1⟩ (setF (setF newT [[98]] (some ⟨true, [], 0 + 1⟩)) [[97]] (some ⟨true, [], 0 + 1 + 1⟩))) (hr : RsV w1 rv [phRule]) => by
    obtain ⟨F, h1, h2⟩ := h.fs
    exact OldB h1 rv (.slice none 0 0) (.slice none 0 0) [phRule] hr (by simp) [] [] (sl0 _) (by simp) (by simp) (sl0 _) (by simp) true (by decide))
  have HOA := Lib.hid (fun (B : Nat) (w1 : World) (f : Nat) (rv nv mv : Value) (h : Sx B w1 2 f ⟨5, 5, 0 + 1 + 1, 0, 0 + 1 + 1⟩ (setF (setF newT [[98]] (some ⟨true, [], 0 + 1⟩)) [[97]] (some ⟨true, [], 0 + 1 + 1⟩))) (hr : RsV w1 rv [phRule]) (hn : SlS w1 nv [[98]]) (hm : SlS w1 mv [[98]]) => by
    obtain ⟨F, h1, h2⟩ := h.fs
    exact OldA h1 rv nv mv [phRule] hr (by simp) [[98]] [[98]] hn (by simp) (by intro x hx; simp at hx; subst hx; exact nmB) hm (by simp) true (by decide))
  go_enter Tryd.func11, Tryd.ntmps11
  go_wp2_with (first
    | (go_at_call 33; refine HAL.out.mono ?_; rintro e w0 ⟨rfl, h0⟩; have H0 := Lib.hid h0; clear h0; simp only [])
    | (go_at_call 13; refine (HNEW.out _).mono ?_; rintro e w1 ⟨f, rfl, hf, h1⟩; have HF := Lib.hid hf; have H1 := Lib.hid h1; clear hf h1; simp only [])
    | (go_at_call 15; ((with_reducible refine (HW2.out _ _ _ HF2.out).mono ?_)); rintro e w3 ⟨rfl, hf3, h3⟩; have HF3 := Lib.hid hf3; have H3 := Lib.hid h3; have HWD := Lib.hid ((wd_t w3).one (k := w3.heap.size + 1 + 1 + 1 + 1) (by simp only [size_alloc])); clear h3 hf3; simp only [])
    | (go_at_call 15; ((with_reducible refine (HW1.out _ _ _ HF.out).mono ?_)); rintro e w2 ⟨rfl, hf2, h2⟩; have HF2 := Lib.hid hf2; have H2 := Lib.hid h2; clear h2 hf2; simp only [])
    | (go_at_call 34; ((with_reducible refine (HOA.out _ _ _ _ _ _ (HF5.out.below (below_alloc _ _)) (HR5.out.below (below_alloc _ _)) (sl_new _ [98]) (HM5.out.below (below_alloc _ _))).mono ?_)); rintro e w6 ⟨rfl, h6⟩; have H6 := Lib.hid h6; clear h6; simp only [])
    | (go_at_call 34; ((with_reducible refine (HOB.out _ _ _ _ (HF3.out.below HWD.out.old) HWD.out.rs).mono ?_)); rintro e w5 ⟨rfl, h5⟩; have q0 := (h5.cell (p := ⟨w3.heap.size, 0, none⟩) HWD.out.lt).trans HWD.out.c0; have q1 := (h5.cell (p := ⟨w3.heap.size, 1, none⟩) HWD.out.lt).trans HWD.out.c1; have HF5 := Lib.hid ((HF3.out.below HWD.out.old).below h5); have HR5 := Lib.hid (HWD.out.rs.below h5); have HM5 := Lib.hid (HWD.out.ms.below h5); have H5 := Lib.hid (below_trans HWD.out.old h5); clear h5; simp only []))
  go_ret
  have b5 : Below w0.heap.size w3 w6 := (below_trans H5.out (below_trans (below_alloc _ _) H6.out)).mono HF3.out.le
  exact ⟨rfl, below_trans H0.out (H1.out.trans (H2.out.trans (H3.out.trans b5)))⟩
theorem phony_walk (ph md th : Bool) (w : World) : Calls Tryd.prog 11 #[.bool ph, .bool md, .bool th] w fun e w' => e = .returned (.bool true) ∧ Below w.heap.size w w' := by
  cases ph <;> cases md <;> cases th
  · exact phony_fff w
  · exact phony_fft w
  · exact phony_ftf w
  · exact phony_ftt w
  · exact phony_tff w
  · exact phony_tft w
  · exact phony_ttf w
  · exact phony_ttt w
end Go.Proofs.YtjagnihkpgbjeaaDoor

namespace Go.Proofs.YtjagnihkpgbjeaaDoor
open Go.RowKit Go.Maps Go.ChangeMaps
set_option linter.unusedVariables false
/-! run where no rule has a recipe. -/
def plan0 : List Value := [.slice none 0 0, .slice none 0 0, .string ⟨#[]⟩, .bool false]
theorem fin50 {w1 : World} {a : Nat} {v0 v1 v2 v3 : Value} (hb : w1.heap[a]? = some (.cells [v0, v1, v2, v3].toArray 50 (0, 0))) (u0 u1 u2 u3 : Value) :
    ((((w1.setCell ⟨a, 0, none⟩ u0).setCell ⟨a, 1, none⟩ u1).setCell ⟨a, 2, none⟩ u2).setCell ⟨a, 3, none⟩ u3).heap[a]? = some (.cells [u0, u1, u2, u3].toArray 50 (0, 0)) := by
  have h0 := set_of hb 0 u0
  have h1 := set_of h0 1 u1
  have h2 := set_of h1 2 u2
  have h3 := set_of h2 3 u3
  exact h3
theorem box50 {w : World} {a : Nat} {v0 v1 v2 v3 : Value} (hb : w.heap[a]? = some (.cells [v0, v1, v2, v3].toArray 50 (0, 0))) :
    w.cell? ⟨a, 0, none⟩ = some v0 ∧ w.cell? ⟨a, 1, none⟩ = some v1 ∧ w.cell? ⟨a, 2, none⟩ = some v2 ∧ w.cell? ⟨a, 3, none⟩ = some v3 ∧ w.frozen? ⟨a, 0, none⟩ = false ∧ w.frozen? ⟨a, 1, none⟩ = false ∧ w.frozen? ⟨a, 2, none⟩ = false ∧ w.frozen? ⟨a, 3, none⟩ = false :=
  ⟨cell_of hb 0, cell_of hb 1, cell_of hb 2, cell_of hb 3, free_of hb 0, free_of hb 1, free_of hb 2, free_of hb 3⟩
theorem below_set {w w1 : World} {a : Nat} (h : Below w.heap.size w w1) (ha : w.heap.size ≤ a) (i : Nat) (u : Value) : Below w.heap.size w (w1.setCell ⟨a, i, none⟩ u) := h.setCell ha u
set_option maxRecDepth 100000 in
set_option maxHeartbeats 4000000 in
theorem run_none (sb : Nat) (ms rv : Value) (rs : List Rl) (w : World) (hv : RsV w rv rs) (hl : rs.length ≤ 1000) (hrc : ∀ r ∈ rs, r.rc = []) (hlt : sb < w.heap.size)
    (q0 : w.cell? ⟨sb, 0, none⟩ = some ms) (q1 : w.cell? ⟨sb, 1, none⟩ = some rv) (hms : ms.oneCell' = true) :
    Calls Tryd.prog 53 #[.pointer (some ⟨sb, 0, none⟩)] w fun e w' => e = .returned (.tuple #[.agg #[.slice none 0 0, .slice none 0 0, .string ⟨#[]⟩, .bool false], .bool false]) ∧ Below w.heap.size w w' := by
  obtain ⟨W, hW⟩ : ∃ W, w.alloc (.cells #[.slice none 0 0, .slice none 0 0, .string ⟨#[]⟩, .bool false] 50) = W := ⟨_, rfl⟩
  have hB : Below w.heap.size w W := hW ▸ below_alloc _ _
  have hblk : W.heap[w.heap.size]? = some (.cells [.slice none 0 0, .slice none 0 0, .string ⟨#[]⟩, .bool false].toArray 50 (0, 0)) := hW ▸ heap_alloc_new w _
  have hsz : w.heap.size < W.heap.size := by rw [← hW, size_alloc]; omega
  have HV := Lib.hid hv
  have HS := Lib.hid (fun (w' : World) (hb : Below w.heap.size w w') => Special_any ms rv rs ⟨#[46, 83, 85, 70, 70, 73, 88, 69, 83]⟩ w' (hv.below hb) hl)
  have HC0 := Lib.hid (fun (w' : World) (hb : Below w.heap.size w w') => (hb.cell (p := ⟨sb, 0, none⟩) hlt).trans q0)
  have HC1 := Lib.hid (fun (w' : World) (hb : Below w.heap.size w w') => (hb.cell (p := ⟨sb, 1, none⟩) hlt).trans q1)
  obtain ⟨a, c, rfl⟩ := hv.len
  obtain ⟨n, hn⟩ : ∃ n, rs.length = n := ⟨_, rfl⟩
  have HN := Lib.hid hn
  have HRC := Lib.hid hrc
  have HWW := Lib.hid hW
  have HB := Lib.hid hB
  have HBLK := Lib.hid hblk
  have HSZ := Lib.hid hsz
  rw [hn] at hl HV HS q1 HC1
  clear hv hrc hn hB hblk hsz hW
  go_enter Tryd.func53, Tryd.ntmps53
  go_wp2_with fail
  rw [HWW.out]
  go_loopw [19] (fun i wr => ∃ k : Nat, k ≤ n ∧ i = .int .i64 k ∧ Hid (Below W.heap.size W wr)) (fun i _ => n - (intOf i).toNat)
  case atStart => exact ⟨0, Nat.zero_le _, rfl, Below.refl _ _⟩
  case round =>
    obtain ⟨k, hk, rfl, HX⟩ := hrel
    by_cases hlt : k < n
    · have hltI : (k : Int) < (n : Int) := by omega
      have h0 : (0 : Int) ≤ (k : Int) := by omega
      have hlr : k < rs.length := by rw [HN.out]; exact hlt
      obtain ⟨g, off, a0, n0, c0, a1, n1, c1, a2, n2, c2, rfl, q0, q1, q2, hr⟩ := HV.out.get2 (HB.out.trans (HX.out.mono HB.out.size)) k hlr
      have hadd := addk3 g off k
      have hn2 : n2 = 0 := by
        obtain ⟨a', c', e⟩ := hr.k.len
        rw [HRC.out _ (List.getElem_mem hlr)] at e
        injection e
      subst hn2
      have HR3 := Lib.hid hr
      clear hr
      go_wp2_with fail
      exact ⟨⟨k + 1, by omega, by go_num, HX.out.trans ((below_alloc _ _).mono HX.out.size)⟩, by simp [intOf]; omega⟩
    · have hltI : ¬ (k : Int) < (n : Int) := by omega
      have p0 := HC0.out _ (HB.out.trans (HX.out.mono HB.out.size))
      have p1 := HC1.out _ (HB.out.trans (HX.out.mono HB.out.size))
      go_wp2_with (go_at_call 81; refine (HS.out _ (HB.out.trans (HX.out.mono HB.out.size))).mono ?_; rintro e w1 ⟨u, rfl, h1⟩; have H1 := Lib.hid (HB.out.trans ((below_trans HX.out h1.old).mono HB.out.size)); have HBX := Lib.hid (((below_trans HX.out h1.old).block _ HSZ.out).trans HBLK.out); obtain ⟨ua, un, uc, rfl⟩ := sl_form h1.sls; clear h1; have p0 := HC0.out _ H1.out; have p1 := HC1.out _ H1.out; simp only [])
      go_loopw [52] (fun i wr => ∃ k : Nat, k ≤ n ∧ i = .int .i64 k ∧ Hid (Below w1.heap.size w1 wr)) (fun i _ => n - (intOf i).toNat)
      case atStart => exact ⟨0, Nat.zero_le _, rfl, Below.refl _ _⟩
      case round =>
        obtain ⟨k, hk, rfl, HX⟩ := hrel
        by_cases hlt : k < n
        · have hltI : (k : Int) < (n : Int) := by omega
          have h0 : (0 : Int) ≤ (k : Int) := by omega
          have hlr : k < rs.length := by rw [HN.out]; exact hlt
          obtain ⟨g, off, a0, n0, c0, a1, n1, c1, a2, n2, c2, rfl, q0, q1, q2, hr⟩ := HV.out.get2 (H1.out.trans (HX.out.mono H1.out.size)) k hlr
          have hadd := addk3 g off k
          have hn2 : n2 = 0 := by
            obtain ⟨a', c', e⟩ := hr.k.len
            rw [HRC.out _ (List.getElem_mem hlr)] at e
            injection e
          subst hn2
          have HR3 := Lib.hid hr
          clear hr
          go_wp2_with fail
          exact ⟨⟨k + 1, by omega, by go_num, HX.out.trans ((below_alloc _ _).mono HX.out.size)⟩, by simp [intOf]; omega⟩
        · have hltI : ¬ (k : Int) < (n : Int) := by omega
          have hbx := (HX.out.block _ (World.block_lt_of_cell? _ _ (cell_of HBX.out 0))).trans HBX.out
          obtain ⟨z0, z1, z2, z3, y0, y1, y2, y3⟩ := box50 hbx
          have HFX := Lib.hid (fin50 (u0 := .slice none 0 0) (u1 := .slice none 0 0) (u2 := .string ⟨#[]⟩) (u3 := .bool false) hbx)
          have HOL : Hid (Below w.heap.size w wr) := H1.out.trans (HX.out.mono H1.out.size)
          clear hbx
          go_wp2_with fail
          have hf := HFX.out
          refine bodyPost_ret (v := .tuple #[.agg #[.slice none 0 0, .slice none 0 0, .string ⟨#[]⟩, .bool false], .bool false]) ?_ rfl ?_
          · obtain ⟨k0, k1, k2, k3, _⟩ := box50 hf
            simp [results, Tryd.results53, go_sem, k0, k1, k2, k3]
            try rfl
          · exact ⟨rfl, below_set (below_set (below_set (below_set HOL.out (Nat.le_refl _) _ _) (Nat.le_refl _) _ _) (Nat.le_refl _) _ _) (Nat.le_refl _) _ _⟩
end Go.Proofs.YtjagnihkpgbjeaaDoor
