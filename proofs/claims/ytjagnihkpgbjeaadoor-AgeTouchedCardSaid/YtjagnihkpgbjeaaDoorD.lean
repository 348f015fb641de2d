import Derived.Test.YtjagnihkpgbjeaaDoorC
namespace Go.Proofs.YtjagnihkpgbjeaaDoor
open Go.RowKit

/-- Names, a stroke ahead of each. -/
def joined (L : List Bs) : Bs := L.flatMap (47 :: ·)
def written (L : List Bs) : Bs := if L = [] then [47] else joined L
theorem joined_snoc (L : List Bs) (x : Bs) : joined (L ++ [x]) = joined L ++ 47 :: x := by simp [joined]
theorem joined_nil {L : List Bs} (h : joined L = []) : L = [] := by
  cases L with
  | nil => rfl
  | cons a l => simp [joined] at h
theorem joined_take (L : List Bs) (k : Nat) (x : Bs) (hk : k < L.length) (hx : L[k] = x) : joined (L.take (k + 1)) = joined (L.take k) ++ 47 :: x := by
  rw [List.take_add_one, List.getElem?_eq_getElem hk, hx]
  exact joined_snoc _ _
theorem joined_len (L : List Bs) (k : Nat) : (joined (L.take k)).length ≤ (joined L).length := by
  conv => rhs; rw [← List.take_append_drop k L]
  unfold joined
  rw [List.flatMap_append, List.length_append]
  omega
theorem bytes_eq {s : ByteArray} {l : Bs} (h : s.data.toList = l) : s = ⟨l.toArray⟩ := by rw [← h]

end Go.Proofs.YtjagnihkpgbjeaaDoor
