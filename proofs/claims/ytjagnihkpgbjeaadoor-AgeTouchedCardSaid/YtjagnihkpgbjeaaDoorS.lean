import Derived.Test.YtjagnihkpgbjeaaDoorR
namespace Go.Proofs.YtjagnihkpgbjeaaDoor
open Go.RowKit

theorem own_cap2 {w : World} {B n c : Nat} {A : Option Addr} {xs : List Value} (h : w.ownsRow B 9 1 (.slice A n c) n xs) : n ≤ c := by
  rcases h.2 with ⟨h1, h0⟩ | ⟨g, c', cur, hv, _, _, h1, _⟩
  · omega
  · injection hv with _ _ e
    rw [e]; exact h1

theorem idx_iff (c : UInt8) : ∀ l : Bs, 0 ≤ Lib.indexByte l c ↔ c ∈ l
  | [] => by simp [Lib.indexByte]
  | b :: l => by
    have ih := idx_iff c l
    unfold Lib.indexByte
    by_cases h : b = c
    · simp [h]
    · have h1 : (b == c) = false := by rw [beq_eq_false_iff_ne]; exact h
      rw [h1]
      simp only [List.mem_cons]
      by_cases h2 : 0 ≤ Lib.indexByte l c
      · have h3 : (Lib.indexByte l c == -1) = false := by rw [beq_eq_false_iff_ne]; omega
        rw [h3]
        simp [ih.1 h2]
        omega
      · have hge : ∀ m : Bs, -1 ≤ Lib.indexByte m c := fun m => by
          induction m with
          | nil => simp [Lib.indexByte]
          | cons d m ihm =>
            unfold Lib.indexByte
            split
            · omega
            · split
              · omega
              · omega
        have h3 : (Lib.indexByte l c == -1) = true := by rw [beq_iff_eq]; have := hge l; omega
        rw [h3]
        simp [Ne.symm h]
        exact fun e => h2 (ih.2 e)
theorem at_iff (s : ByteArray) (c : UInt8) : ∀ n k : Nat, s.size + 1 ≤ n + k → (0 ≤ at_ s c n k ↔ c ∈ s.data.toList.drop k)
  | 0, k, h => by
    have hl : s.data.toList.length = s.size := Array.length_toList
    rw [at_, List.drop_eq_nil_of_le (by omega)]; simp
  | n + 1, k, h => by
    have hl : s.data.toList.length = s.size := Array.length_toList
    have ih := at_iff s c n (k + 1) (by omega)
    rw [at_]
    by_cases hk : k < s.size
    · have hd : s.data.toList.drop k = gb s k :: s.data.toList.drop (k + 1) := by
        rw [List.drop_eq_getElem_cons (by omega)]
        unfold gb
        rw [List.getD_eq_getElem?_getD, List.getElem?_eq_getElem (by omega)]; rfl
      rw [if_pos hk, hd, List.mem_cons]
      by_cases hc : gb s k = c
      · rw [if_pos hc]; simp [hc]
      · rw [if_neg hc, ih]
        simp [Ne.symm hc]
    · rw [if_neg hk, List.drop_eq_nil_of_le (by omega)]; simp
theorem at_mem (s : ByteArray) (c : UInt8) : 0 ≤ at_ s c (s.size + 1) 0 ↔ c ∈ s.data.toList := by
  have := at_iff s c (s.size + 1) 0 (by omega)
  simpa using this

end Go.Proofs.YtjagnihkpgbjeaaDoor
