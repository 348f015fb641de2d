import Derived.Test.YtjagnihkpgbjeaaDoorB
namespace Go.Proofs.YtjagnihkpgbjeaaDoor
open Go.RowKit

/-- The names of a path as it is seen from a directory. -/
def parts (cwd p : ByteArray) : List Bs :=
  (sp p.data.toList).foldl push (if 0 < p.size ∧ gb p 0 = 47 then [] else (sp cwd.data.toList).foldl push [])

theorem push_fold_len (P : List Bs) : ∀ l : List Bs, (P.foldl push l).length ≤ l.length + P.length := by
  induction P with
  | nil => intro l; simp
  | cons a P ih =>
    intro l
    have h1 := ih (push l a)
    have h2 := push_len l a
    simp only [List.foldl_cons, List.length_cons]
    omega
theorem sp_len : ∀ a : Bs, (sp a).length ≤ a.length + 1
  | [] => by simp [sp]
  | c :: t => by
    have h := sp_len t
    rw [sp]
    split
    · simp; omega
    · split
      · simp
      · rename_i a r e
        rw [e] at h
        simp at h ⊢
        omega

end Go.Proofs.YtjagnihkpgbjeaaDoor
