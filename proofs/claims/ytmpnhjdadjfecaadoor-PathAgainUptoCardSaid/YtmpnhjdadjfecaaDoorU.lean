import Derived.Test.YtmpnhjdadjfecaaDoorT
namespace Go.Proofs.YtmpnhjdadjfecaaDoor
open Go.RowKit

theorem below_step {w a b : World} (h : Below w.heap.size w a) (k : Below a.heap.size a b) : Below w.heap.size w b := h.trans (k.mono h.size)
theorem below_drew {w a b : World} (h : Below w.heap.size w a) {m : Nat} (e : b = a.drewN m) : Below w.heap.size w b := by
  rw [e]; exact ⟨h.os, h.tape, h.output, h.size, h.block⟩
theorem iff_self_true {P : Prop} (h : P) : (true = true ↔ P) := ⟨fun _ => h, fun _ => rfl⟩

set_option maxRecDepth 100000 in
set_option maxHeartbeats 4000000 in
theorem tells_walk (cwd p : ByteArray) (w : World) : Calls Tryd.prog 3 #[.string cwd, .string p] w fun e w' => e = .returned (.bool true) ∧ Below w.heap.size w w' := by
  go_enter Tryd.func3, Tryd.ntmps3
  go_wp2_with fail
  refine (alive_any w).mono ?_
  rintro e w1 ⟨rfl, hB⟩
  have HB := Lib.hid hB
  clear hB
  by_cases c1 : cwd.size ≤ 400
  · have c1I : ¬ (400 : Int) < (cwd.size : Int) := by omega
    by_cases c2 : p.size ≤ 400
    · have c2I : ¬ (400 : Int) < (p.size : Int) := by omega
      obtain ⟨⟨rs, rn⟩, hr⟩ : ∃ q, abs_ cwd p = q := ⟨_, rfl⟩
      obtain ⟨S, hS⟩ : ∃ S : ByteArray, ⟨rs.toArray⟩ = S := ⟨_, rfl⟩
      have h1 := fun w => Abs_any cwd p w (by omega) (by omega) rs rn hr
      have h2 := fun w => RefAbs_any cwd p w (by omega) (by omega) rs rn hr
      rw [hS] at h1 h2
      have H1 := Lib.hid h1
      have H2 := Lib.hid h2
      obtain ⟨D, hD⟩ : ∃ D : ByteArray, ⟨(written (parts ⟨#[47]⟩ p).dropLast).toArray⟩ = D := ⟨_, rfl⟩
      have h3 := fun w => Dir_any p w (by omega)
      have h4 := fun w => RefDir_any p w (by omega)
      rw [hD] at h3 h4
      have H3 := Lib.hid h3
      have H4 := Lib.hid h4
      obtain ⟨E, hE⟩ : ∃ E : ByteArray, ⟨((parts ⟨#[47]⟩ p).getLast?.getD []).toArray⟩ = E := ⟨_, rfl⟩
      have h5 := fun w => Base_any p w (by omega)
      have h6 := fun w => RefBase_any p w (by omega)
      rw [hE] at h5 h6
      have H5 := Lib.hid h5
      have H6 := Lib.hid h6
      obtain ⟨v, hv⟩ : ∃ v : Bool, (v = true ↔ parts ⟨#[47]⟩ cwd <+: parts ⟨#[47]⟩ p) := by
        by_cases h : parts ⟨#[47]⟩ cwd <+: parts ⟨#[47]⟩ p
        · exact ⟨true, by simp [h]⟩
        · exact ⟨false, by simp [h]⟩
      have H7 : Hid (∀ w, _) := fun w => Within_any cwd p w (by omega) (by omega) v hv
      have H8 : Hid (∀ w, _) := fun w => RefWithin_any cwd p w (by omega) (by omega) v hv
      have hl := parts_len cwd p
      clear h1 h2 h3 h4 h5 h6 hS hD hE hv hr
      go_wp2_with fail
      refine (H1.out w1).mono ?_
      rintro e w2 ⟨rfl, hB⟩
      have HB2 := Lib.hid (below_step HB.out hB)
      clear hB
      go_wp2_with fail
      refine (H2.out w2).mono ?_
      rintro e w3 ⟨rfl, hB⟩
      have HB3 := Lib.hid (below_step HB2.out hB)
      clear hB
      go_wp2_with fail
      refine (num_any rn w3).mono ?_
      rintro e w4 ⟨rfl, h⟩
      obtain rfl := h.symm
      go_wp2_with fail
      refine (Parts_any cwd p w3 (by omega) (by omega)).mono ?_
      rintro e w4 ⟨va, rfl, hown, hB⟩
      obtain ⟨A, c, rfl⟩ := own_form hown
      have HO := Lib.hid hown
      have HB4 := Lib.hid (below_step HB3.out hB)
      clear hown hB
      go_wp2_with fail
      refine (RefParts_any cwd p w4 (by omega) (by omega)).mono ?_
      rintro e w5 ⟨vb, rfl, hown2, hB⟩
      obtain ⟨A2, c2, rfl⟩ := own_form hown2
      have HS : Hid (StrsL w5 A (parts cwd p)) := strs_own (HO.out.kept (gb_below hB) (Classical.em _))
      have HS2 := Lib.hid (strs_own hown2)
      have HB5 := Lib.hid (below_step HB4.out hB)
      clear hown2 hB
      go_wp2_with fail
      refine (Same_any A A2 (parts cwd p) (parts cwd p) c c2 w5 (by omega) HS.out HS2.out true (iff_self_true rfl)).mono ?_
      rintro e w6 ⟨rfl, m, hm⟩
      have HB6 := Lib.hid (below_drew HB5.out hm)
      clear hm
      go_wp2_with fail
      refine (H3.out w6).mono ?_
      rintro e w7 ⟨rfl, hB⟩
      have HB7 := Lib.hid (below_step HB6.out hB)
      clear hB
      go_wp2_with fail
      refine (H4.out w7).mono ?_
      rintro e w8 ⟨rfl, hB⟩
      have HB8 := Lib.hid (below_step HB7.out hB)
      clear hB
      go_wp2_with fail
      refine (H5.out w8).mono ?_
      rintro e w9 ⟨rfl, hB⟩
      have HB9 := Lib.hid (below_step HB8.out hB)
      clear hB
      go_wp2_with fail
      refine (H6.out w9).mono ?_
      rintro e w10 ⟨rfl, hB⟩
      have HB10 := Lib.hid (below_step HB9.out hB)
      clear hB
      go_wp2_with fail
      refine (H7.out w10).mono ?_
      rintro e w11 ⟨rfl, hB⟩
      have HB11 := Lib.hid (below_step HB10.out hB)
      clear hB
      go_wp2_with fail
      refine (H8.out w11).mono ?_
      rintro e w12 ⟨rfl, hB⟩
      have HB12 := Lib.hid (below_step HB11.out hB)
      clear hB
      go_wp2_with fail
      go_ret
      exact ⟨rfl, HB12.out⟩
    · have c2I : (400 : Int) < (p.size : Int) := by omega
      go_wp2_with fail
      go_ret
      exact ⟨rfl, HB.out⟩
  · have c1I : (400 : Int) < (cwd.size : Int) := by omega
    go_wp2_with fail
    go_ret
    exact ⟨rfl, HB.out⟩
end Go.Proofs.YtmpnhjdadjfecaaDoor
