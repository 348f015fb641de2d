import Derived.Test.YtjagnihkpgbjeaaDoorD
namespace Go.Proofs.YtjagnihkpgbjeaaDoor
open Go.RowKit

theorem joined_cons (a : Bs) (L : List Bs) : (joined (a :: L)).length = a.length + 1 + (joined L).length := by
  simp [joined]
  omega
theorem joined_app (L M : List Bs) : (joined (L ++ M)).length = (joined L).length + (joined M).length := by
  simp [joined]
theorem joined_sp : ∀ a : Bs, (joined (sp a)).length = a.length + 1
  | [] => by simp [sp, joined]
  | c :: t => by
    have h := joined_sp t
    rw [sp]
    split
    · rw [joined_cons, h]; simp; omega
    · split
      · rename_i e
        rw [e] at h
        simp [joined] at h
      · rename_i a r e
        rw [e, joined_cons] at h
        rw [joined_cons]
        simp only [List.length_cons]
        omega
theorem joined_drop (l : List Bs) : (joined l.dropLast).length ≤ (joined l).length := by
  rw [List.dropLast_eq_take]; exact joined_len l _
theorem joined_push (l : List Bs) (s : Bs) : (joined (push l s)).length ≤ (joined l).length + (s.length + 1) := by
  unfold push
  split
  · omega
  · split
    · have := joined_drop l; omega
    · rw [joined_app, joined_cons]; simp [joined]
theorem joined_fold (P : List Bs) : ∀ l : List Bs, (joined (P.foldl push l)).length ≤ (joined l).length + (joined P).length := by
  induction P with
  | nil => intro l; simp
  | cons a P ih =>
    intro l
    have h1 := ih (push l a)
    have h2 := joined_push l a
    rw [List.foldl_cons, joined_cons]
    omega
theorem parts_joined (cwd p : ByteArray) : (joined (parts cwd p)).length ≤ cwd.size + p.size + 2 := by
  have h1 := joined_fold (sp p.data.toList) (if 0 < p.size ∧ gb p 0 = 47 then [] else (sp cwd.data.toList).foldl push [])
  have h2 := joined_fold (sp cwd.data.toList) []
  have l1 : p.data.toList.length = p.size := Array.length_toList
  have l2 : cwd.data.toList.length = cwd.size := Array.length_toList
  rw [joined_sp] at h1 h2
  unfold parts
  split at h1 <;> rename_i hc
  · rw [if_pos hc]; simp [joined] at h1 h2 ⊢; omega
  · rw [if_neg hc]; simp [joined] at h1 h2 ⊢; omega
theorem parts_len (cwd p : ByteArray) : (parts cwd p).length ≤ cwd.size + p.size + 2 := by
  have h := parts_joined cwd p
  have : ∀ L : List Bs, L.length ≤ (joined L).length := fun L => by
    induction L with
    | nil => simp
    | cons a L ih => rw [joined_cons, List.length_cons]; omega
  have := this (parts cwd p)
  omega

end Go.Proofs.YtjagnihkpgbjeaaDoor
