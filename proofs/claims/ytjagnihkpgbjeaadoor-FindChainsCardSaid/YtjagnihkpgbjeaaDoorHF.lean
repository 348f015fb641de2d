import Derived.Test.YtjagnihkpgbjeaaDoorHE
namespace Go.Proofs.YtjagnihkpgbjeaaDoor
open Go.RowKit Go.Maps Go.ChangeMaps
set_option linter.unusedVariables false
def rsA : List Rl := [⟨[[97]], [[98]], []⟩]
/-- What the boxes of alive's makefile come to. -/
theorem wdA (w : World) : RsV ((((w.alloc (.cells #[.string ⟨#[97]⟩] 9)).alloc (.cells #[.string ⟨#[98]⟩] 9)).alloc (.cells #[.slice (some ⟨w.heap.size, 0, none⟩) 1 1, .slice (some ⟨w.heap.size + 1, 0, none⟩) 1 1, .slice none 0 0] 48)).alloc (.cells #[.slice none 0 0, .slice (some ⟨w.heap.size + 1 + 1, 0, none⟩) 1 1] 45)) (.slice (some ⟨w.heap.size + 1 + 1, 0, none⟩) 1 1) rsA := by
  obtain ⟨w2, h2⟩ : ∃ w2, w.alloc (.cells #[.string ⟨#[97]⟩] 9) = w2 := ⟨_, rfl⟩
  have s2 : w2.heap.size = w.heap.size + 1 := by rw [← h2, size_alloc]
  obtain ⟨w3, h3⟩ : ∃ w3, w2.alloc (.cells #[.string ⟨#[98]⟩] 9) = w3 := ⟨_, rfl⟩
  have s3 : w3.heap.size = w.heap.size + 1 + 1 := by rw [← h3, size_alloc, s2]
  rw [h2, h3]
  obtain ⟨w4, h4⟩ : ∃ w4, w3.alloc (.cells #[.slice (some ⟨w.heap.size, 0, none⟩) 1 1, .slice (some ⟨w.heap.size + 1, 0, none⟩) 1 1, .slice none 0 0] 48) = w4 := ⟨_, rfl⟩
  have b3 : Below w2.heap.size w2 w3 := h3 ▸ below_alloc _ _
  have b4 : Below w3.heap.size w3 w4 := h4 ▸ below_alloc _ _
  have t2 : SlS w2 (.slice (some ⟨w.heap.size, 0, none⟩) 1 1) [[97]] := by rw [← h2]; exact sl_new w [97]
  have t3 : SlS w3 (.slice (some ⟨w.heap.size + 1, 0, none⟩) 1 1) [[98]] := by rw [← h3, ← s2]; exact sl_new w2 [98]
  have hr : RsV w4 (.slice (some ⟨w.heap.size + 1 + 1, 0, none⟩) 1 1) rsA := by
    refine .inr ⟨w.heap.size + 1 + 1, 0, 1, rfl, by simp [rsA], by omega, by rw [← h4, size_alloc]; omega, fun i hi => ?_⟩
    obtain rfl : i = 0 := by simpa [rsA] using hi
    refine ⟨.slice (some ⟨w.heap.size, 0, none⟩) 1 1, .slice (some ⟨w.heap.size + 1, 0, none⟩) 1 1, .slice none 0 0, ?_, ?_, ?_, ⟨(t2.below b3).below b4, t3.below b4, sl0 _, by simp [rsA], by simp [rsA], by simp [rsA]⟩⟩
    · rw [← s3, ← h4]; exact cell_new _ _ _ _
    · rw [← s3, ← h4]; exact cell_new _ _ _ _
    · rw [← s3, ← h4]; exact cell_new _ _ _ _
  rw [h4]
  exact hr.below (below_alloc _ _)
theorem wdA2 (w : World) : ∀ W, W = ((((w.alloc (.cells #[.string ⟨#[97]⟩] 9)).alloc (.cells #[.string ⟨#[98]⟩] 9)).alloc (.cells #[.slice (some ⟨w.heap.size, 0, none⟩) 1 1, .slice (some ⟨w.heap.size + 1, 0, none⟩) 1 1, .slice none 0 0] 48)).alloc (.cells #[.slice none 0 0, .slice (some ⟨w.heap.size + 1 + 1, 0, none⟩) 1 1] 45)) →
    RsV W (.slice (some ⟨w.heap.size + 1 + 1, 0, none⟩) 1 1) rsA ∧ Below w.heap.size w W ∧ w.heap.size + 1 + 1 + 1 < W.heap.size ∧ W.cell? ⟨w.heap.size + 1 + 1 + 1, 0, none⟩ = some (.slice none 0 0) ∧ W.cell? ⟨w.heap.size + 1 + 1 + 1, 1, none⟩ = some (.slice (some ⟨w.heap.size + 1 + 1, 0, none⟩) 1 1) := by
  intro W hW
  have hr := wdA w
  obtain ⟨w4, h4⟩ : ∃ w4, ((w.alloc (.cells #[.string ⟨#[97]⟩] 9)).alloc (.cells #[.string ⟨#[98]⟩] 9)).alloc (.cells #[.slice (some ⟨w.heap.size, 0, none⟩) 1 1, .slice (some ⟨w.heap.size + 1, 0, none⟩) 1 1, .slice none 0 0] 48) = w4 := ⟨_, rfl⟩
  have s4 : w4.heap.size = w.heap.size + 1 + 1 + 1 := by rw [← h4, size_alloc, size_alloc, size_alloc]
  have b4 : Below w.heap.size w w4 := h4 ▸ below_trans (below_alloc _ _) (below_trans (below_alloc _ _) (below_alloc _ _))
  rw [h4] at hW hr
  subst hW
  refine ⟨hr, below_trans b4 (below_alloc _ _), by rw [size_alloc]; omega, ?_, ?_⟩
  · rw [← s4]; exact cell_new _ _ _ _
  · rw [← s4]; exact cell_new _ _ _ _
theorem gctx {B : Nat} {w : World} {N f : Nat} {c : Cn} {T : Tr} {rs : List Rl} {rv : Value} (h : Sx B w N f c T) (hr : RsV w rv rs) (hl : rs.length ≤ 1000) (hf : ∀ r ∈ rs, r.ns.length ≤ 100) (hn : ∀ r ∈ rs, r.rc = []) : GCtx w f T rs rv := by
  obtain ⟨F, h1, _⟩ := h.fs
  exact ⟨⟨_, _, _, F, h1⟩, hr, hl, hf, hn⟩
def TB : Tr := setF newT [[98]] (some ⟨true, [], 0 + 1⟩)
theorem sort_ex {r : Option (Int × GS)} {e : Int} {o : List Bs} (h : r.map (fun p => (p.1, p.2.order)) = some (e, o)) : ∃ sf, r = some (e, sf) ∧ sf.order = o := by
  cases r with
  | none => cases h
  | some p =>
    obtain ⟨a, sf⟩ := p
    injection h with h
    injection h with h1 h2
    exact ⟨sf, by show some (a, sf) = some (e, sf); rw [show a = e from h1], h2⟩
theorem sortA : ∃ sf, sortF (GG rsA) (thF TB) 9 [[97]] s00 = some (0, sf) ∧ sf.order = [[98], [97]] := sort_ex (by decide)
theorem sl_ba (w : World) : SlS (w.alloc (.cells #[.string ⟨#[98]⟩, .string ⟨#[97]⟩] 9)) (.slice (some ⟨w.heap.size, 0, none⟩) 2 2) [[98], [97]] := by
  refine .inr ⟨w.heap.size, 0, 2, rfl, by simp, by omega, by simp, fun i hi => ?_⟩
  have hc : i = 0 ∨ i = 1 := by simp at hi; omega
  rcases hc with rfl | rfl
  · rw [Nat.add_zero, cell_new]; rfl
  · rw [Nat.zero_add, cell_new]; rfl
theorem num31 (n : Int) (w : World) : Calls Tryd.prog 31 #[.int .i64 n] w fun e w' => e = .returned (.int .i64 n) ∧ w' = w := by
  go_enter Tryd.func31, Tryd.ntmps31
  go_wp2_with fail
  go_ret
  exact ⟨rfl, rfl⟩
set_option maxRecDepth 100000 in
set_option maxHeartbeats 4000000 in
theorem alive29 (w : World) : Calls Tryd.prog 29 #[] w fun e w' => e = .returned (.bool true) ∧ Below w.heap.size w w' := by
  obtain ⟨sf, hsf, hso⟩ := sortA
  have HNEW := Lib.hid (fun w => New_sx 3 10 (by omega) (by omega) (by omega) (by omega) w)
  have HW1 := Lib.hid (fun (B : Nat) (w1 : World) (f : Nat) (h : Sx B w1 0 f ⟨3, 10, 0, 0, 0⟩ newT) => Write_sx (s := [98]) h nmB rfl ⟨by decide, by decide, by decide, by decide, by decide⟩ (by decide) (by decide) (by decide))
  rw [show pathB [98] = ⟨#[47, 98]⟩ from rfl] at HW1
  have HOR := Lib.hid (fun (B : Nat) (w1 : World) (f : Nat) (b : Nat) (tv : Value) (h : Sx B w1 1 f ⟨3, 10, 0 + 1, 0, 0 + 1⟩ TB) (hr : RsV w1 (.slice (some ⟨b, 0, none⟩) 1 1) rsA) (ht : SlS w1 tv [[97]]) => by
    have := Order_any (am := none) (nm := 0) (cm := 0) (gctx h hr (by simp [rsA]) (by simp [rsA]) (by simp [rsA])) tv [[97]] ht (by simp) 9 0 sf hsf
    rw [hso] at this
    exact this)
  have HNUM := Lib.hid num31
  obtain ⟨W, hW⟩ : ∃ W, ((((w.alloc (.cells #[.string ⟨#[97]⟩] 9)).alloc (.cells #[.string ⟨#[98]⟩] 9)).alloc (.cells #[.slice (some ⟨w.heap.size, 0, none⟩) 1 1, .slice (some ⟨w.heap.size + 1, 0, none⟩) 1 1, .slice none 0 0] 48)).alloc (.cells #[.slice none 0 0, .slice (some ⟨w.heap.size + 1 + 1, 0, none⟩) 1 1] 45)) = W := ⟨_, rfl⟩
  have HWD := Lib.hid (wdA2 w W hW.symm)
  have HWW := Lib.hid hW
  clear hsf hso hW
  go_enter Tryd.func29, Tryd.ntmps29
  go_wp2_with fail
  rw [HWW.out]
  refine (HNEW.out W).mono ?_
  rintro e w1 ⟨f, rfl, hf, h1⟩
  have HF := Lib.hid hf
  have H1 := Lib.hid h1
  clear hf h1
  simp only []
  go_wp2_with (first
    | (go_at_call 15; refine (HW1.out _ _ _ HF.out).mono ?_; rintro e w2 ⟨rfl, hf2, h2⟩; have HF2 := Lib.hid hf2; have H2 := Lib.hid (H1.out.trans h2); have q0 := (H2.out.cell (p := ⟨w.heap.size + 1 + 1 + 1, 0, none⟩) HWD.out.2.2.1).trans HWD.out.2.2.2.1; have q1 := (H2.out.cell (p := ⟨w.heap.size + 1 + 1 + 1, 1, none⟩) HWD.out.2.2.1).trans HWD.out.2.2.2.2; clear h2 hf2; simp only [])
    | (go_at_call 30; refine (HOR.out _ _ _ _ _ (HF2.out.below (below_alloc _ _)) (HWD.out.1.below (below_trans H2.out (below_alloc _ _))) (sl_new _ [97])).mono ?_; rintro e w3 ⟨v, rfl, hv, h3⟩; have HV := Lib.hid (show SlS w3 v [[98], [97]] from hv); have H3 := Lib.hid h3; obtain ⟨va, vc, hvf⟩ := hv.len; rw [show (if (0 : Int) = 0 then ([[98], [97]] : List Bs) else []).length = 2 from rfl] at hvf; subst hvf; clear hv h3; simp only [])
    | (go_at_call 31; refine (HNUM.out _ _).mono ?_; rintro e w4 ⟨rfl, h4⟩; obtain rfl := h4.symm; simp only [])
    | (go_at_call 28; refine (Same_any va (some ⟨w3.heap.size, 0, none⟩) [[98], [97]] [[98], [97]] vc 2 _ (by simp) (strs_sl (HV.out.below (below_alloc _ _))) (strs_sl (sl_ba _)) true ⟨fun _ => rfl, fun _ => rfl⟩).mono ?_; rintro e w5 ⟨rfl, m, rfl⟩; simp only []))
  go_ret
  exact ⟨rfl, below_trans HWD.out.2.1 (below_trans H2.out (below_trans (below_alloc _ _) (below_trans H3.out (below_drewN (below_alloc _ _) _))))⟩
end Go.Proofs.YtjagnihkpgbjeaaDoor
