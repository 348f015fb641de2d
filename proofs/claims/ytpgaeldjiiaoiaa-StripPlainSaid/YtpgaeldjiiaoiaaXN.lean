import Derived.Test.YtpgaeldjiiaoiaaXM
namespace Go.Proofs.Ytpgaeldjiiaoiaa
open Go.RowKit
set_option linter.unusedVariables false

/-! Matches seen from either end. -/
theorem Mx_one {s : ByteArray} {it : It} {o e : Nat} : Mx s [it] o e ↔ if it.1 = 3 then o ≤ e else o + 1 = e ∧ it.2.2 (gb s o) = true := by
  rw [Mx]
  by_cases h : it.1 = 3
  · rw [if_pos h, if_pos h]
    constructor
    · rintro ⟨j, h1, h2, _⟩; omega
    · intro h; exact ⟨e, h, Nat.le_refl _, by simp [Mx]⟩
  · rw [if_neg h, if_neg h]
    simp only [Mx]
    constructor
    · rintro ⟨h1, h2, h3⟩; exact ⟨h3, h2⟩
    · rintro ⟨h1, h2⟩; exact ⟨by omega, h2, h1⟩
/-- The bytes from o to e alone count. -/
theorem Mx_shift {s t : ByteArray} {d : Nat} : ∀ (P : List It) (o e : Nat), (∀ i, o ≤ i → i < e → gb t i = gb s (i + d)) → (Mx t P o e ↔ Mx s P (o + d) (e + d))
  | [], o, e, _ => by simp [Mx]
  | it :: P, o, e, h => by
    have ih := fun o' (ho : o ≤ o') => Mx_shift (s := s) (t := t) (d := d) P o' e (fun i h1 h2 => h i (by omega) h2)
    rw [show it :: P = [it] ++ P from rfl, Mx_append, Mx_append]
    constructor
    · rintro ⟨k, h1, h2⟩
      have hk := h1.le
      have hke := h2.le
      refine ⟨k + d, ?_, (ih k hk).1 h2⟩
      rw [Mx_one] at h1 ⊢
      by_cases h3 : it.1 = 3
      · rw [if_pos h3] at h1 ⊢; omega
      · rw [if_neg h3] at h1 ⊢
        refine ⟨by omega, ?_⟩
        rw [← h o (Nat.le_refl _) (by omega)]; exact h1.2
    · rintro ⟨k, h1, h2⟩
      have hk := h1.le
      have hke := h2.le
      obtain ⟨j, rfl⟩ : ∃ j, k = j + d := ⟨k - d, by omega⟩
      refine ⟨j, ?_, (ih j (by omega)).2 h2⟩
      rw [Mx_one] at h1 ⊢
      by_cases h3 : it.1 = 3
      · rw [if_pos h3] at h1 ⊢; omega
      · rw [if_neg h3] at h1 ⊢
        refine ⟨by omega, ?_⟩
        rw [h o (Nat.le_refl _) (by omega)]; exact h1.2
theorem Mx_rev {s : ByteArray} : ∀ (P : List It) (o e : Nat), o ≤ e → e ≤ s.size → (Mx (revB s) P.reverse (s.size - e) (s.size - o) ↔ Mx s P o e)
  | [], o, e, h1, h2 => by simp [Mx]; omega
  | it :: P, o, e, h1, h2 => by
    rw [List.reverse_cons, Mx_append, show it :: P = [it] ++ P from rfl, Mx_append]
    constructor
    · rintro ⟨k, h3, h4⟩
      have a1 := h3.le
      have a2 := h4.le
      obtain ⟨j, hj⟩ : ∃ j, j = s.size - k := ⟨_, rfl⟩
      have hk : k = s.size - j := by omega
      rw [hk] at h3 h4
      refine ⟨j, ?_, (Mx_rev P j e (by omega) h2).1 h3⟩
      rw [Mx_one] at h4 ⊢
      by_cases h5 : it.1 = 3
      · rw [if_pos h5] at h4 ⊢; omega
      · rw [if_neg h5] at h4 ⊢
        refine ⟨by omega, ?_⟩
        have := revB_gb s (s.size - j) (by omega)
        rw [show s.size - 1 - (s.size - j) = o by omega] at this
        rw [← this]; exact h4.2
    · rintro ⟨j, h3, h4⟩
      have a1 := h3.le
      have a2 := h4.le
      refine ⟨s.size - j, (Mx_rev P j e a2 h2).2 h4, ?_⟩
      rw [Mx_one] at h3 ⊢
      by_cases h5 : it.1 = 3
      · rw [if_pos h5] at h3 ⊢; omega
      · rw [if_neg h5] at h3 ⊢
        refine ⟨by omega, ?_⟩
        rw [revB_gb s (s.size - j) (by omega), show s.size - 1 - (s.size - j) = o by omega]; exact h3.2
theorem gb_ext (s : ByteArray) (a b i : Nat) (h1 : i + a < b) (h2 : b ≤ s.size) : gb (s.extract a b) i = gb s (i + a) := by
  have e : (s.extract a b).data.toList = (s.data.toList.drop a).take (b - a) := by rw [← Lib.toList_data, Lib.extract_toList]
  unfold gb
  rw [e]
  simp only [List.getD_eq_getElem?_getD]
  rw [List.getElem?_take, if_pos (by omega), List.getElem?_drop, Nat.add_comm a i]
/-- What a part of a text matches. -/
theorem part_match (p s : ByteArray) (a b : Nat) (h1 : a ≤ b) (h2 : b ≤ s.size) : matchB p (s.extract a b) = true ↔ Mx s (pat p) a b := by
  have hz : (s.extract a b).size = b - a := by rw [ByteArray.size_extract]; omega
  unfold matchB
  rw [mxB_iff, hz]
  have := Mx_shift (s := s) (t := s.extract a b) (d := a) (pat p) 0 (b - a) (fun i _ hi => gb_ext s a b i (by omega) h2)
  rw [Nat.zero_add, Nat.sub_add_cancel h1] at this
  exact this
theorem pickE_mem {l : List Nat} {most : Bool} (h : pickE l most ≠ 0) : pickE l most ∈ l := by
  cases l with
  | nil => exact absurd (by cases most <;> rfl) h
  | cons a t =>
    cases most with
    | false => exact List.mem_cons_self ..
    | true =>
      unfold pickE
      simp only [if_true]
      rw [List.getLastD_eq_getLast?, List.getLast?_eq_some_getLast (by simp : a :: t ≠ [])]
      exact List.getLast_mem _
theorem front_match (s p : ByteArray) (most : Bool) (h : offK s (pat p) most ≠ 0) : matchB p (s.extract 0 (offK s (pat p) most)) = true := by
  have hle := offK_le s (pat p) most
  have hm := pickE_mem (most := most) h
  unfold ends at hm
  have h2 := (List.mem_filter.1 hm).2
  have h3 : dp s (pat p) (pat p).length (offK s (pat p) most) = true := h2
  rw [part_match p s 0 _ (Nat.zero_le _) hle]
  rw [dp_iff, List.take_length] at h3
  exact h3
theorem back_match (s p : ByteArray) (most : Bool) (h : offK (revB s) (pat p).reverse most ≠ 0) : matchB p (s.extract (s.size - offK (revB s) (pat p).reverse most) s.size) = true := by
  have hle := offK_le (revB s) (pat p).reverse most
  rw [revB_size] at hle
  have hm := pickE_mem (most := most) h
  unfold ends at hm
  have h3 : dp (revB s) (pat p).reverse (pat p).reverse.length (offK (revB s) (pat p).reverse most) = true := (List.mem_filter.1 hm).2
  rw [part_match p s _ _ (by omega) (Nat.le_refl _)]
  rw [dp_iff, List.take_length] at h3
  have := Mx_rev (s := s) (pat p) (s.size - offK (revB s) (pat p).reverse most) s.size (by omega) (Nat.le_refl _)
  rw [Nat.sub_self, show s.size - (s.size - offK (revB s) (pat p).reverse most) = offK (revB s) (pat p).reverse most by omega] at this
  exact this.1 h3
theorem off_mono (s : ByteArray) (P : List It) : offK s P false ≤ offK s P true := by
  unfold offK pickE
  simp only [Bool.false_eq_true, if_false, if_true]
  have hs : (ends s P (s.size + 1)).Pairwise (· < ·) := by
    unfold ends; exact List.Pairwise.filter _ List.pairwise_lt_range
  cases h : ends s P (s.size + 1) with
  | nil => simp
  | cons a t =>
    rw [h] at hs
    rw [List.headD_cons, List.getLastD_eq_getLast?, List.getLast?_eq_some_getLast (by simp : a :: t ≠ [])]
    simp only [Option.getD_some]
    rcases List.mem_cons.1 (List.getLast_mem (by simp : a :: t ≠ [])) with h2 | h2
    · omega
    · exact Nat.le_of_lt ((List.pairwise_cons.1 hs).1 _ h2)
end Go.Proofs.Ytpgaeldjiiaoiaa
