import Derived.Test.YtmpnhjdadjfecaaDoorX
namespace Go.Proofs.YtmpnhjdadjfecaaDoor
open Go.RowKit
set_option linter.unusedVariables false

structure Fit (L : List Bs) : Prop where
  good : Good L
  short : ∀ x ∈ L, x.length ≤ 60
  whole : ∀ x ∈ L, ∀ c ∈ x, c ≠ 0
  few : L.length ≤ 20
  size : (written L).length ≤ 200
theorem written_ne (L : List Bs) : written L ≠ [] := fun e => by have := rooted_written L; rw [e] at this; simp [rooted] at this
theorem written_len_last (L : List Bs) : (written L.dropLast).length ≤ (written L).length := by
  by_cases h : L.dropLast = []
  · rw [h]
    have := written_ne L
    show 1 ≤ _
    cases e : written L with
    | nil => exact absurd e this
    | cons a l => simp
  · have hL : L ≠ [] := fun e => h (by rw [e]; rfl)
    unfold written
    rw [if_neg h, if_neg hL]
    exact joined_drop L
theorem list_eq_false_ {q : ByteArray} {l : Bs} (h : q.data.toList ≠ l) : (q.toList == l) = false := by rw [Lib.toList_data, beq_eq_false_iff_ne]; exact h
theorem fit_last {L : List Bs} (h : Fit L) : Fit L.dropLast :=
  ⟨good_last h.good, fun x hx => h.short x (List.dropLast_subset _ hx), fun x hx => h.whole x (List.dropLast_subset _ hx), by have := h.few; rw [List.length_dropLast]; omega, Nat.le_trans (written_len_last L) h.size⟩
theorem nul_written {L : List Bs} (h : Fit L) : ∀ c ∈ written L, c ≠ 0 := by
  intro c hc e
  rcases written_bytes hc with h1 | ⟨x, hx, hb⟩
  · rw [e] at h1; simp at h1
  · exact h.whole x hx c hb e
theorem abs_ok {cwd p : ByteArray} {rs : Bs} (h : abs_ cwd p = (rs, 0)) : ∃ L, Fit L ∧ rs = written L := by
  unfold abs_ at h
  split at h
  · simp at h
  · rename_i h0
    split at h
    · simp at h
    · rename_i h1
      split at h
      · simp at h
      · rename_i h2
        injection h with h _
        refine ⟨parts cwd p, ⟨parts_good _ _, fun x hx => ?_, fun x hx c hc e => ?_, ?_, ?_⟩, h.symm⟩
        · rcases Nat.lt_or_ge 60 x.length with g | g
          · exact absurd ⟨x, hx, g⟩ h1
          · exact g
        · rw [parts_eq] at hx
          rcases partsL_bytes hx c hc with g | g
          · exact h0 (.inr (.inr ((at_mem cwd 0).2 (by rw [← e]; exact g))))
          · exact h0 (.inr (.inl ((at_mem p 0).2 (by rw [← e]; exact g))))
        · omega
        · omega
theorem abs_of {o p : ByteArray} {L : List Bs} (hL : Fit L) (hp : p.size ≠ 0) (h : parts o p = L) (ho : ∀ c ∈ o.data.toList, c ≠ 0) (hz : ∀ c ∈ p.data.toList, c ≠ 0) : abs_ o p = (written L, 0) := by
  unfold abs_
  rw [if_neg, h, if_neg, if_neg]
  · have := hL.few; have := hL.size; omega
  · rintro ⟨x, hx, g⟩; have := hL.short x hx; omega
  · rintro (g | g | g)
    · exact hp g
    · exact hz 0 ((at_mem p 0).1 g) rfl
    · exact ho 0 ((at_mem o 0).1 g) rfl
theorem parts_whole (o : ByteArray) {L : List Bs} (h : Good L) : parts o (bs (written L)) = L := by
  rw [parts_eq, bs_list]; exact partsL_written _ h
theorem bs_ne {L : List Bs} : (bs (written L)).size ≠ 0 := by
  rw [bs_size]; intro e; exact written_ne L (List.length_eq_zero_iff.1 e)
theorem snoc_parts {D : List Bs} {x : Bs} (h : Good (D ++ [x])) : parts (bs (written D)) (bs x) = D ++ [x] := by
  have hx := h x (by simp)
  have hD : Good D := good_sub h fun y hy => by simp [hy]
  rw [parts_eq, bs_list, bs_list, partsL_one (fun e => ?_) hD, sp_all x hx.2.2.2]
  · rw [List.foldl_cons, push_of hx]; rfl
  · unfold rooted at e
    cases x with
    | nil => simp at e
    | cons a l => simp at e; exact hx.2.2.2 a (by simp) e
theorem written_root {L : List Bs} (h : Good L) : written L = [47] ↔ L = [] := by
  constructor
  · intro e
    cases L with
    | nil => rfl
    | cons a l =>
      rw [written, if_neg (by simp)] at e
      have := congrArg List.length e
      rw [joined_cons] at this
      have ha := (h a (by simp)).1
      cases a with
      | nil => exact absurd rfl ha
      | cons c t => simp at this; omega
  · rintro rfl; rfl

set_option maxRecDepth 100000 in
set_option maxHeartbeats 4000000 in
theorem again_walk (cwd p o : ByteArray) (hc : cwd.size ≤ 1048576) (hp : p.size ≤ 1048576) (w : World) : Calls Tryd.prog 4 #[.string cwd, .string p, .string o] w fun e w' => e = .returned (.bool true) ∧ Below w.heap.size w w' := by
  obtain ⟨⟨rs, rn⟩, hr⟩ : ∃ q, abs_ cwd p = q := ⟨_, rfl⟩
  have h1 := fun w => RefAbs_any cwd p w (by omega) (by omega) rs rn hr
  obtain ⟨S, hS⟩ : ∃ S : ByteArray, bs rs = S := ⟨_, rfl⟩
  rw [show (⟨rs.toArray⟩ : ByteArray) = S from hS] at h1
  have H1 := Lib.hid h1
  have HS := Lib.hid hS
  have HR := Lib.hid hr
  clear h1 hS hr
  go_enter Tryd.func4, Tryd.ntmps4
  go_wp2_with fail
  refine (alive_any w).mono ?_
  rintro e w1 ⟨rfl, hB⟩
  have HB := Lib.hid hB
  clear hB
  go_wp2_with fail
  refine (H1.out w1).mono ?_
  rintro e w2 ⟨rfl, hB⟩
  have HB2 := Lib.hid (below_step HB.out hB)
  clear hB
  by_cases c1 : rn = 0
  case neg =>
    have c1I : (rn != 0) = true := by rw [bne_iff_ne]; exact c1
    go_wp2_with fail
    go_ret
    exact ⟨rfl, HB2.out⟩
  subst c1
  by_cases c2 : o.size ≤ 100
  case neg =>
    have c2I : (100 : Int) < (o.size : Int) := by omega
    go_wp2_with fail
    go_ret
    exact ⟨rfl, HB2.out⟩
  have c2I : ¬ (100 : Int) < (o.size : Int) := by omega
  obtain ⟨x, hx⟩ : ∃ x, at_ o 0 (o.size + 1) 0 = x := ⟨_, rfl⟩
  have hAt := At_any o 0 w2 (by omega)
  have hmem := at_mem o 0
  rw [hx] at hAt hmem
  have HAt := Lib.hid hAt
  have HMem := Lib.hid hmem
  clear hAt hx hmem
  by_cases c3 : 0 ≤ x
  case pos =>
    go_wp2_with fail
    refine HAt.out.mono ?_
    rintro e w3 ⟨rfl, h⟩
    obtain rfl := h.symm
    go_wp2_with fail
    go_ret
    exact ⟨rfl, HB2.out⟩
  have HO : Hid (∀ c ∈ o.data.toList, c ≠ 0) := fun c hcm e => c3 (HMem.out.2 (by rw [← e]; exact hcm))
  obtain ⟨L, hL, hLs⟩ := abs_ok HR.out
  have hSL : S = bs (written L) := by rw [← HS.out, hLs]
  have hSs : S.size ≤ 200 := by rw [hSL, bs_size]; exact hL.size
  have hPS : parts ⟨#[47]⟩ S = L := by rw [hSL]; exact parts_whole _ hL.good
  obtain ⟨D, hD⟩ : ∃ D : ByteArray, bs (written L.dropLast) = D := ⟨_, rfl⟩
  obtain ⟨E, hE⟩ : ∃ E : ByteArray, bs (L.getLast?.getD []) = E := ⟨_, rfl⟩
  have hDs : D.size ≤ 200 := by rw [← hD, bs_size]; exact (fit_last hL).size
  have hPD : parts ⟨#[47]⟩ D = L.dropLast := by rw [← hD]; exact parts_whole _ (fit_last hL).good
  have a1 : abs_ o S = (written L, 0) := abs_of hL (by rw [hSL]; exact bs_ne) (by rw [hSL]; exact parts_whole _ hL.good) HO.out (by rw [hSL, bs_list]; exact nul_written hL)
  have b1 := fun w => Abs_any o S w (by omega) (by omega) _ _ a1
  rw [show (⟨(written L).toArray⟩ : ByteArray) = S from hSL.symm] at b1
  have b2 := fun w => Dir_any S w (by omega)
  rw [hPS, show (⟨(written L.dropLast).toArray⟩ : ByteArray) = D from hD] at b2
  have b3 := fun w => Base_any S w (by omega)
  rw [hPS, show (⟨(L.getLast?.getD []).toArray⟩ : ByteArray) = E from hE] at b3
  have B1 := Lib.hid b1
  have B2 := Lib.hid b2
  have B3 := Lib.hid b3
  have B4 : Hid (∀ w, _) := fun w => Within_any D S w (by omega) (by omega) true (iff_self_true (by rw [hPS, hPD]; exact List.dropLast_prefix _))
  have hroot : parts ⟨#[47]⟩ ⟨#[47]⟩ = [] := rfl
  have B5 : Hid (∀ w, _) := fun w => Within_any ⟨#[47]⟩ S w (by decide) (by omega) true (iff_self_true (by rw [hroot]; exact List.nil_prefix))
  clear b1 b2 b3 a1
  by_cases c4 : L = []
  · subst c4
    have hSe : S = ⟨#[47]⟩ := hSL
    have hDe : D = ⟨#[47]⟩ := hD.symm
    have hEe : E = ⟨#[]⟩ := hE.symm
    subst hSe
    subst hDe
    subst hEe
    clear hSL hPS hPD hD hE hLs hroot
    go_wp2_with fail
    refine HAt.out.mono ?_
    rintro e w3 ⟨rfl, h⟩
    obtain rfl := h.symm
    go_wp2_with fail
    refine (B1.out w2).mono ?_
    rintro e w3 ⟨rfl, hB⟩
    have HB3 := Lib.hid (below_step HB2.out hB)
    clear hB
    go_wp2_with fail
    refine (B2.out w3).mono ?_
    rintro e w4 ⟨rfl, hB⟩
    have HB4 := Lib.hid (below_step HB3.out hB)
    clear hB
    go_wp2_with fail
    refine (B3.out w4).mono ?_
    rintro e w5 ⟨rfl, hB⟩
    have HB5 := Lib.hid (below_step HB4.out hB)
    clear hB
    go_wp2_with fail
    refine (num_any 0 w5).mono ?_
    rintro e w6 ⟨rfl, h⟩
    obtain rfl := h.symm
    go_wp2_with fail
    refine (B4.out w5).mono ?_
    rintro e w6 ⟨rfl, hB⟩
    have HB6 := Lib.hid (below_step HB5.out hB)
    clear hB
    go_wp2_with fail
    refine (B5.out w6).mono ?_
    rintro e w7 ⟨rfl, hB⟩
    have HB7 := Lib.hid (below_step HB6.out hB)
    clear hB
    go_wp2_with fail
    go_ret
    exact ⟨rfl, HB7.out⟩
  · have hsr : S.data.toList ≠ [47] := by
      rw [hSL, bs_list]
      exact fun e => c4 ((written_root hL.good).1 e)
    have hsf := list_eq_false_ hsr
    have hl : L.dropLast ++ [L.getLast c4] = L := List.dropLast_concat_getLast c4
    have hlast : L.getLast?.getD [] = L.getLast c4 := by rw [List.getLast?_eq_some_getLast c4]; rfl
    rw [hlast] at hE
    have hxm : L.getLast c4 ∈ L := List.getLast_mem c4
    have hEs : E.size ≤ 60 := by rw [← hE, bs_size]; exact hL.short _ hxm
    have hE0 : E.size ≠ 0 := by
      rw [← hE, bs_size]
      intro e
      exact (hL.good _ hxm).1 (List.length_eq_zero_iff.1 e)
    have a2 : abs_ D E = (written L, 0) := by
      refine abs_of hL hE0 ?_ ?_ ?_
      · rw [← hD, ← hE, snoc_parts (by rw [hl]; exact hL.good), hl]
      · rw [← hD, bs_list]; exact nul_written (fit_last hL)
      · rw [← hE, bs_list]; exact hL.whole _ hxm
    have b6 := fun w => Abs_any D E w (by omega) (by omega) _ _ a2
    rw [show (⟨(written L).toArray⟩ : ByteArray) = S from hSL.symm] at b6
    have B6 := Lib.hid b6
    have B7 : Hid (∀ w, _) := fun w => Within_any S D w (by omega) (by omega) false (by
      rw [Hid, hPS, hPD]
      constructor
      · intro h; cases h
      · intro h
        have h1 := h.length_le
        have h2 : 0 < L.length := List.length_pos_iff.2 c4
        rw [List.length_dropLast] at h1
        omega)
    clear hSL hPS hPD hD hE hLs hroot b6 a2 hsr hlast hl hxm hEs hE0
    go_wp2_with fail
    refine HAt.out.mono ?_
    rintro e w3 ⟨rfl, h⟩
    obtain rfl := h.symm
    go_wp2_with fail
    refine (B1.out w2).mono ?_
    rintro e w3 ⟨rfl, hB⟩
    have HB3 := Lib.hid (below_step HB2.out hB)
    clear hB
    go_wp2_with fail
    refine (B2.out w3).mono ?_
    rintro e w4 ⟨rfl, hB⟩
    have HB4 := Lib.hid (below_step HB3.out hB)
    clear hB
    go_wp2_with fail
    refine (B3.out w4).mono ?_
    rintro e w5 ⟨rfl, hB⟩
    have HB5 := Lib.hid (below_step HB4.out hB)
    clear hB
    go_wp2_with fail
    refine (num_any 0 w5).mono ?_
    rintro e w6 ⟨rfl, h⟩
    obtain rfl := h.symm
    go_wp2_with fail
    refine (B4.out w5).mono ?_
    rintro e w6 ⟨rfl, hB⟩
    have HB6 := Lib.hid (below_step HB5.out hB)
    clear hB
    go_wp2_with fail
    refine (B5.out w6).mono ?_
    rintro e w7 ⟨rfl, hB⟩
    have HB7 := Lib.hid (below_step HB6.out hB)
    clear hB
    go_wp2_with fail
    refine (B6.out w7).mono ?_
    rintro e w8 ⟨rfl, hB⟩
    have HB8 := Lib.hid (below_step HB7.out hB)
    clear hB
    go_wp2_with fail
    refine (num_any 0 w8).mono ?_
    rintro e w9 ⟨rfl, h⟩
    obtain rfl := h.symm
    go_wp2_with fail
    refine (B7.out w8).mono ?_
    rintro e w9 ⟨rfl, hB⟩
    have HB9 := Lib.hid (below_step HB8.out hB)
    clear hB
    go_wp2_with fail
    go_ret
    exact ⟨rfl, HB9.out⟩
end Go.Proofs.YtmpnhjdadjfecaaDoor
