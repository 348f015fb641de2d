import Derived.Test.YtafbheplaheohaaU
namespace Go.Proofs.Ytafbheplaheohaa
open Go.RowKit
set_option linter.unusedVariables false

theorem readF_sz : ∀ (f e : Nat) (q : Bool) (d : Nat) (p : PS) (s : Bz) (p' : PS) (r : Bz), readF f e q d p s = .ok (p', r) → p'.sz + r.length ≤ p.sz + s.length
  | 0, _, _, _, _, _, _, _, h => by cases h
  | f + 1, e, q, d, p, [], p', r, h => by rw [readF] at h; cases h; exact Nat.le_refl _
  | f + 1, e, q, d, p, c :: s, p', r, h => by
    rw [readF] at h
    have ih := readF_sz f
    split at h
    · cases h; exact Nat.le_refl _
    split at h
    · have := ih _ _ _ _ _ _ _ h
      have := escF_sz q p s
      simp; omega
    split at h
    · split at h
      · cases h
      · rename_i t r' e1
        have := ih _ _ _ _ _ _ _ h
        have h2 := congrArg List.length (cutAt_eq e1).1
        have h3 := put_sz p.mark 2 t
        rw [mark_sz] at h3
        simp at h2 ⊢; omega
    split at h
    · split at h
      · cases h
      · cases h
      · rename_i p1 c1 r1 e1
        have := ih _ _ _ _ _ _ _ h
        have h2 := ih _ _ _ _ _ _ _ e1
        rw [mark_sz] at h2
        simp at this h2 ⊢; omega
    split at h
    · split at h
      · cases h
      · rename_i p1 r1 e1
        have := ih _ _ _ _ _ _ _ h
        have := dollF_sz (fun t w r _ hw => by
          obtain ⟨p2, e2, _⟩ := allR_ok hw
          exact readF_len f _ _ _ _ _ _ _ e2) e1
        simp; omega
    split at h
    · cases h
    · have := ih _ _ _ _ _ _ _ h
      have := put_sz p (if q then 2 else 1) [c]
      simp at this ⊢; omega
theorem readC_sz {e : Nat} {q : Bool} {d : Nat} {p : PS} {s : Bz} {p' : PS} {r : Bz} (h : readC e q d p s = .ok (p', r)) : p'.sz + r.length ≤ p.sz + s.length := readF_sz _ _ _ _ _ _ _ _ h
/-- Where a reading of n bytes comes to, if it is known. -/
def RP (n : Nat) : Prop := ∀ (w : World) (B rb pb a : Nat) (lv : Value) (p : PS) (S : ByteArray) (e : Nat) (q : Bool) (d : Nat), S.size - a = n → e ≤ 3 → d + (S.size - a) ≤ 100000 → PAt w B pb lv p → p.sz + (S.size - a) ≤ 60000 → B ≤ w.heap.size → Rd w rb S a → rb < B → a ≤ S.size → S.size ≤ 20000 → ReadAt w rb pb S e q d B a p
end Go.Proofs.Ytafbheplaheohaa
