import Derived.Test.YtpgaeldjiiaoiaaS
namespace Go.Proofs.Ytpgaeldjiiaoiaa
open Go.RowKit

/-- Do the first i items match the first k bytes? -/
def dp (s : ByteArray) (P : List It) (i k : Nat) : Bool := mxB s (P.take i) 0 k
theorem dp_iff (s : ByteArray) (P : List It) (i k : Nat) : dp s P i k = true ↔ Mx s (P.take i) 0 k := mxB_iff _ _ _ _
theorem dp_zero (s : ByteArray) (P : List It) (k : Nat) : dp s P 0 k = decide (k = 0) := by
  rw [Bool.eq_iff_iff, dp_iff]; simp [Mx]; exact eq_comm
theorem take_snoc {P : List It} {i : Nat} {it : It} (h : P[i]? = some it) : P.take (i + 1) = P.take i ++ [it] := by
  obtain ⟨hi, rfl⟩ := List.getElem?_eq_some_iff.1 h
  exact List.take_succ_eq_append_getElem hi
theorem dp_star {s : ByteArray} {P : List It} {i : Nat} {it : It} (h : P[i]? = some it) (h3 : it.1 = 3) (k : Nat) :
    dp s P (i + 1) k = (dp s P i k || (decide (0 < k) && dp s P (i + 1) (k - 1))) := by
  rw [Bool.eq_iff_iff, Bool.or_eq_true, Bool.and_eq_true, decide_eq_true_eq, dp_iff, dp_iff, dp_iff, take_snoc h, Mx_append, Mx_append]
  have hs : ∀ o e, Mx s [it] o e ↔ o ≤ e := by
    intro o e
    rw [Mx, if_pos h3]
    constructor
    · rintro ⟨j, h1, h2, _⟩; omega
    · intro h; exact ⟨e, h, Nat.le_refl _, by simp [Mx]⟩
  constructor
  · rintro ⟨j, h1, h2⟩
    rw [hs] at h2
    by_cases hj : j = k
    · subst hj; exact .inl h1
    · exact .inr ⟨by omega, j, h1, by rw [hs]; omega⟩
  · rintro (h1 | ⟨hk, j, h1, h2⟩)
    · exact ⟨k, h1, by rw [hs]; exact Nat.le_refl _⟩
    · rw [hs] at h2; exact ⟨j, h1, by rw [hs]; omega⟩
theorem dp_step {s : ByteArray} {P : List It} {i : Nat} {it : It} (h : P[i]? = some it) (h3 : it.1 ≠ 3) (k : Nat) :
    dp s P (i + 1) k = (decide (0 < k) && dp s P i (k - 1) && it.2.2 (gb s (k - 1))) := by
  rw [Bool.eq_iff_iff, Bool.and_eq_true, Bool.and_eq_true, decide_eq_true_eq, dp_iff, dp_iff, take_snoc h, Mx_append]
  have hs : ∀ o e, Mx s [it] o e ↔ o + 1 = e ∧ it.2.2 (gb s o) = true := by
    intro o e
    rw [Mx, if_neg h3]
    simp only [Mx]
    constructor
    · rintro ⟨h1, h2, h3⟩; exact ⟨h3, h2⟩
    · rintro ⟨h1, h2⟩; exact ⟨by omega, h2, h1⟩
  constructor
  · rintro ⟨j, h1, h2⟩
    rw [hs] at h2
    obtain ⟨h2, h4⟩ := h2
    subst h2
    exact ⟨⟨by omega, by simpa using h1⟩, by simpa using h4⟩
  · rintro ⟨⟨hk, h1⟩, h2⟩
    exact ⟨k - 1, h1, by rw [hs]; exact ⟨by omega, h2⟩⟩

theorem semR_star {x : RI} (h : x.k = 1) : (semR x).1 = 3 := by unfold semR; rw [if_pos h]; rfl
theorem semR_step {x : RI} (h : x.k ≠ 1) : (semR x).1 ≠ 3 := by
  unfold semR; rw [if_neg h]
  split
  · simp [itOne]
  · split
    · simp [itSet]
    · simp [itLit]
theorem semR_is {x : RI} (h : x.k ≠ 1) (h4 : x.k ≤ 3) (c : UInt8) : (semR x).2.2 c = isB x.k x.c x.nb x.ps c := by
  unfold semR isB
  rw [if_neg h]
  by_cases h2 : x.k = 2
  · rw [if_pos h2, if_neg (by omega), if_pos h2]; rfl
  · rw [if_neg h2]
    by_cases h3 : x.k = 3
    · rw [if_pos h3, if_neg (by omega), if_neg h2]; rfl
    · rw [if_neg h3, if_pos (by omega)]; rfl
end Go.Proofs.Ytpgaeldjiiaoiaa
