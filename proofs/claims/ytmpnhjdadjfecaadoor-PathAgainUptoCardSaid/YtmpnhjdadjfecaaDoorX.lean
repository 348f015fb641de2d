import Derived.Test.YtmpnhjdadjfecaaDoorU
namespace Go.Proofs.YtmpnhjdadjfecaaDoor
open Go.RowKit

theorem size_zero {q : ByteArray} : q.data.toList = [] ↔ q.size = 0 := by
  have h : q.data.toList.length = q.size := Array.length_toList
  rw [← List.length_eq_zero_iff, h]
theorem empty_false {q : ByteArray} (h : q.size ≠ 0) : q.toList.isEmpty = false := by
  rw [Lib.toList_data]
  cases e : q.data.toList with
  | nil => exact absurd (size_zero.1 e) h
  | cons a t => rfl
theorem empty_true {q : ByteArray} (h : q.size = 0) : q.toList.isEmpty = true := by
  rw [Lib.toList_data, size_zero.2 h]; rfl

set_option maxRecDepth 100000 in
set_option maxHeartbeats 4000000 in
theorem steps_walk (cwd p q : ByteArray) (w : World) : Calls Tryd.prog 5 #[.string cwd, .string p, .string q] w fun e w' => e = .returned (.bool true) ∧ Below w.heap.size w w' := by
  obtain ⟨v, hv⟩ : ∃ v : Bool, (v = true ↔ 0 < q.size ∧ gb q 0 = 47) := ⟨decide (0 < q.size ∧ gb q 0 = 47), by simp⟩
  have HV := Lib.hid hv
  clear hv
  go_enter Tryd.func5, Tryd.ntmps5
  go_wp2_with fail
  refine (alive_any w).mono ?_
  rintro e w1 ⟨rfl, hB⟩
  have HB := Lib.hid hB
  clear hB
  by_cases c1 : cwd.size ≤ 200
  · have c1I : ¬ (200 : Int) < (cwd.size : Int) := by omega
    by_cases c2 : p.size ≤ 100
    · have c2I : ¬ (100 : Int) < (p.size : Int) := by omega
      by_cases c3 : q.size ≤ 100
      · have c3I : ¬ (100 : Int) < (q.size : Int) := by omega
        go_wp2_with fail
        refine (Begins_stroke q w1 v HV.out).mono ?_
        rintro e w2 ⟨rfl, h⟩
        obtain rfl := h.symm
        cases v with
        | true =>
          go_wp2_with fail
          go_ret
          exact ⟨rfl, HB.out⟩
        | false =>
          by_cases c4 : p.size = 0
          · have he := empty_true c4
            go_wp2_with fail
            go_ret
            exact ⟨rfl, HB.out⟩
          · have he := empty_false c4
            have hl := parts_len cwd p
            have hj := parts_joined cwd p
            have hpl : p.data.toList ≠ [] := fun e => c4 (size_zero.1 e)
            have hql : ¬ rooted q.data.toList := fun h => by
              have := HV.out.2 ((rooted_iff q).2 h)
              simp at this
            obtain ⟨S, hS⟩ : ∃ S : ByteArray, ⟨(written (parts cwd p)).toArray⟩ = S := ⟨_, rfl⟩
            have hSs : S.size ≤ 400 := by
              rw [← hS]
              show (written (parts cwd p)).length ≤ 400
              unfold written; split
              · simp
              · omega
            obtain ⟨Z, hZ⟩ : ∃ Z : ByteArray, p ++ ⟨#[47]⟩ ++ q = Z := ⟨_, rfl⟩
            have hZl : Z.data.toList = p.data.toList ++ 47 :: q.data.toList := by rw [← hZ]; simp
            have hZs : Z.size ≤ 400 := by
              have h1 : Z.data.toList.length = Z.size := Array.length_toList
              have h2 : p.data.toList.length = p.size := Array.length_toList
              have h3 : q.data.toList.length = q.size := Array.length_toList
              rw [hZl] at h1
              simp at h1
              omega
            have heq : parts S q = parts cwd Z := by
              rw [parts_eq, parts_eq, hZl, ← hS]
              show partsL (written (parts cwd p)) _ = _
              rw [parts_eq]
              exact steps_law hpl hql
            have hW := fun (B : Nat) (va : Value) (w : World) hv => RefWrite_any B va (parts cwd p) w hv (by omega) (by omega)
            rw [hS] at hW
            have HW := Lib.hid hW
            have HEQ := Lib.hid heq
            have hln : (parts cwd Z).length ≤ 1000 := by have := parts_len cwd Z; omega
            clear hW heq hS hZl hpl hql hj
            go_wp2_with fail
            refine (Parts_any cwd p w1 (by omega) (by omega)).mono ?_
            rintro e w4 ⟨va, rfl, hown, hB⟩
            obtain ⟨A, c, rfl⟩ := own_form hown
            have HO := Lib.hid hown
            have HB4 := Lib.hid (below_step HB.out hB)
            clear hown hB
            go_wp2_with fail
            refine (HW.out w1.heap.size _ w4 HO.out).mono ?_
            rintro e w5 ⟨rfl, h⟩
            obtain rfl := h.symm
            go_wp2_with fail
            refine (Parts_any S q w4 (by omega) (by omega)).mono ?_
            rintro e w5 ⟨va, rfl, hown, hB⟩
            rw [HEQ.out] at hown
            obtain ⟨A5, c5, rfl⟩ := own_form hown
            have HO5 := Lib.hid hown
            have HB5 := Lib.hid (below_step HB4.out hB)
            clear hown hB
            go_wp2_with fail
            refine (Parts_any cwd Z w5 (by omega) (by omega)).mono ?_
            rintro e w6 ⟨vb, rfl, hown2, hB⟩
            obtain ⟨A6, c6, rfl⟩ := own_form hown2
            have HS : Hid (StrsL w6 A5 (parts cwd Z)) := strs_own (HO5.out.kept (gb_below hB) (Classical.em _))
            have HS2 := Lib.hid (strs_own hown2)
            have HB6 := Lib.hid (below_step HB5.out hB)
            clear hown2 hB
            go_wp2_with fail
            refine (Same_any A5 A6 (parts cwd Z) (parts cwd Z) c5 c6 w6 (by omega) HS.out HS2.out true (iff_self_true rfl)).mono ?_
            rintro e w7 ⟨rfl, m, hm⟩
            have HB7 := Lib.hid (below_drew HB6.out hm)
            clear hm
            go_wp2_with fail
            go_ret
            exact ⟨rfl, HB7.out⟩
      · have c3I : (100 : Int) < (q.size : Int) := by omega
        go_wp2_with fail
        go_ret
        exact ⟨rfl, HB.out⟩
    · have c2I : (100 : Int) < (p.size : Int) := by omega
      go_wp2_with fail
      go_ret
      exact ⟨rfl, HB.out⟩
  · have c1I : (200 : Int) < (cwd.size : Int) := by omega
    go_wp2_with fail
    go_ret
    exact ⟨rfl, HB.out⟩

theorem good_parts_list (c p : ByteArray) : Good (parts c p) := parts_good c p
theorem dir_within (p : ByteArray) : parts ⟨#[47]⟩ (bs (written (parts ⟨#[47]⟩ p).dropLast)) = (parts ⟨#[47]⟩ p).dropLast := by
  rw [parts_eq, bs_list]
  exact partsL_written _ (good_last (parts_good _ _))

set_option maxRecDepth 100000 in
set_option maxHeartbeats 4000000 in
theorem order_walk (a b c : ByteArray) (w : World) : Calls Tryd.prog 7 #[.string a, .string b, .string c] w fun e w' => e = .returned (.bool true) ∧ Below w.heap.size w w' := by
  go_enter Tryd.func7, Tryd.ntmps7
  go_wp2_with fail
  refine (alive_any w).mono ?_
  rintro e w1 ⟨rfl, hB⟩
  have HB := Lib.hid hB
  clear hB
  by_cases c1 : a.size ≤ 200
  · have c1I : ¬ (200 : Int) < (a.size : Int) := by omega
    by_cases c2 : b.size ≤ 200
    · have c2I : ¬ (200 : Int) < (b.size : Int) := by omega
      by_cases c3 : c.size ≤ 200
      · have c3I : ¬ (200 : Int) < (c.size : Int) := by omega
        have hD := dir_within a
        have hla := parts_len ⟨#[47]⟩ a
        have hlb := parts_len ⟨#[47]⟩ b
        have hja := parts_joined ⟨#[47]⟩ a
        have h1 : (⟨#[47]⟩ : ByteArray).size = 1 := rfl
        rw [h1] at hla hlb hja
        obtain ⟨D, hDe⟩ : ∃ D, bs (written (parts ⟨#[47]⟩ a).dropLast) = D := ⟨_, rfl⟩
        have hDs : D.size ≤ 1000 := by
          rw [← hDe, bs_size]
          unfold written; split
          · simp
          · have := joined_drop (parts ⟨#[47]⟩ a); omega
        have h16 := fun w => Dir_any a w (by omega)
        rw [show (⟨(written (parts ⟨#[47]⟩ a).dropLast).toArray⟩ : ByteArray) = D from hDe] at h16
        rw [hDe] at hD
        have H16 := Lib.hid h16
        have tf : ∀ P : Prop, ∃ v : Bool, v = true ↔ P := fun P => by
          by_cases h : P
          · exact ⟨true, by simp [h]⟩
          · exact ⟨false, by simp [h]⟩
        obtain ⟨x, hx⟩ := tf (parts ⟨#[47]⟩ a <+: parts ⟨#[47]⟩ b)
        obtain ⟨y, hy⟩ := tf (parts ⟨#[47]⟩ b <+: parts ⟨#[47]⟩ c)
        obtain ⟨z, hz⟩ := tf (parts ⟨#[47]⟩ b <+: parts ⟨#[47]⟩ a)
        obtain ⟨u, hu⟩ := tf (parts ⟨#[47]⟩ a <+: parts ⟨#[47]⟩ c)
        obtain ⟨s, hs⟩ := tf (parts ⟨#[47]⟩ a = parts ⟨#[47]⟩ b)
        have HWab : Hid (∀ w, _) := fun w => Within_any a b w (by omega) (by omega) x hx
        have HWbc : Hid (∀ w, _) := fun w => Within_any b c w (by omega) (by omega) y hy
        have HWba : Hid (∀ w, _) := fun w => Within_any b a w (by omega) (by omega) z hz
        have HWac : Hid (∀ w, _) := fun w => Within_any a c w (by omega) (by omega) u hu
        have HWaa : Hid (∀ w, _) := fun w => Within_any a a w (by omega) (by omega) true (iff_self_true (List.prefix_refl _))
        have HWda : Hid (∀ w, _) := fun w => Within_any D a w (by omega) (by omega) true (iff_self_true (by rw [hD]; exact List.dropLast_prefix _))
        have hs' := Lib.hid hs
        have k1 : Hid (x = true → y = true → u = true) := fun h1 h2 => hu.2 ((hx.1 h1).trans (hy.1 h2))
        have k2 : Hid ((x && z) = s) := by
          rw [Hid, Bool.eq_iff_iff, Bool.and_eq_true, hs, hx, hz]
          exact ⟨fun h => h.1.eq_of_length (Nat.le_antisymm h.1.length_le h.2.length_le), fun h => by rw [h]; exact ⟨List.prefix_refl _, List.prefix_refl _⟩⟩
        clear h16 hD hDe hx hy hz hu hs tf hja h1
        go_wp2_with fail
        refine (HWab.out w1).mono ?_
        rintro e w2 ⟨rfl, hB⟩
        have HB2 := Lib.hid (below_step HB.out hB)
        clear hB
        go_wp2_with fail
        refine (HWbc.out w2).mono ?_
        rintro e w3 ⟨rfl, hB⟩
        have HB3 := Lib.hid (below_step HB2.out hB)
        clear hB
        go_wp2_with fail
        refine (Parts_any ⟨#[47]⟩ a w3 (by decide) (by omega)).mono ?_
        rintro e w4 ⟨va, rfl, hown, hB⟩
        obtain ⟨A4, c4, rfl⟩ := own_form hown
        have HO := Lib.hid hown
        have HB4 := Lib.hid (below_step HB3.out hB)
        clear hown hB
        go_wp2_with fail
        refine (Parts_any ⟨#[47]⟩ b w4 (by decide) (by omega)).mono ?_
        rintro e w5 ⟨vb, rfl, hown2, hB⟩
        obtain ⟨A5, c5, rfl⟩ := own_form hown2
        have HS : Hid (StrsL w5 A4 (parts ⟨#[47]⟩ a)) := strs_own (HO.out.kept (gb_below hB) (Classical.em _))
        have HS2 := Lib.hid (strs_own hown2)
        have HB5 := Lib.hid (below_step HB4.out hB)
        clear hown2 hB
        go_wp2_with fail
        refine (Same_any A4 A5 (parts ⟨#[47]⟩ a) (parts ⟨#[47]⟩ b) c4 c5 w5 (by omega) HS.out HS2.out s hs'.out).mono ?_
        rintro e w6 ⟨rfl, m, hm⟩
        have HB6 := Lib.hid (below_drew HB5.out hm)
        clear hm
        go_wp2_with fail
        refine (HWaa.out w6).mono ?_
        rintro e w7 ⟨rfl, hB⟩
        have HB7 := Lib.hid (below_step HB6.out hB)
        clear hB
        cases x
        · obtain rfl : s = false := k2.out.symm
          go_wp2_with fail
          refine (H16.out w7).mono ?_
          rintro e w8 ⟨rfl, hB⟩
          have HB8 := Lib.hid (below_step HB7.out hB)
          clear hB
          go_wp2_with fail
          refine (HWda.out w8).mono ?_
          rintro e w9 ⟨rfl, hB⟩
          have HB9 := Lib.hid (below_step HB8.out hB)
          clear hB
          go_wp2_with fail
          go_ret
          exact ⟨rfl, HB9.out⟩
        · obtain rfl : z = s := k2.out
          cases y
          · go_wp2_with fail
            refine (HWba.out w7).mono ?_
            rintro e w8 ⟨rfl, hB⟩
            have HB8 := Lib.hid (below_step HB7.out hB)
            clear hB
            go_wp2_with fail
            refine (H16.out w8).mono ?_
            rintro e w9 ⟨rfl, hB⟩
            have HB9 := Lib.hid (below_step HB8.out hB)
            clear hB
            go_wp2_with fail
            refine (HWda.out w9).mono ?_
            rintro e w10 ⟨rfl, hB⟩
            have HB10 := Lib.hid (below_step HB9.out hB)
            clear hB
            go_wp2_with fail
            go_ret
            exact ⟨rfl, HB10.out⟩
          · obtain rfl : u = true := k1.out rfl rfl
            go_wp2_with fail
            refine (HWac.out w7).mono ?_
            rintro e w8 ⟨rfl, hB⟩
            have HB8 := Lib.hid (below_step HB7.out hB)
            clear hB
            go_wp2_with fail
            refine (HWba.out w8).mono ?_
            rintro e w9 ⟨rfl, hB⟩
            have HB9 := Lib.hid (below_step HB8.out hB)
            clear hB
            go_wp2_with fail
            refine (H16.out w9).mono ?_
            rintro e w10 ⟨rfl, hB⟩
            have HB10 := Lib.hid (below_step HB9.out hB)
            clear hB
            go_wp2_with fail
            refine (HWda.out w10).mono ?_
            rintro e w11 ⟨rfl, hB⟩
            have HB11 := Lib.hid (below_step HB10.out hB)
            clear hB
            go_wp2_with fail
            go_ret
            exact ⟨rfl, HB11.out⟩
      · have c3I : (200 : Int) < (c.size : Int) := by omega
        go_wp2_with fail
        go_ret
        exact ⟨rfl, HB.out⟩
    · have c2I : (200 : Int) < (b.size : Int) := by omega
      go_wp2_with fail
      go_ret
      exact ⟨rfl, HB.out⟩
  · have c1I : (200 : Int) < (a.size : Int) := by omega
    go_wp2_with fail
    go_ret
    exact ⟨rfl, HB.out⟩
end Go.Proofs.YtmpnhjdadjfecaaDoor
