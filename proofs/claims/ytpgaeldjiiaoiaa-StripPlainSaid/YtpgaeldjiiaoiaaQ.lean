import Derived.Test.YtpgaeldjiiaoiaaO
namespace Go.Proofs.Ytpgaeldjiiaoiaa
open Go.RowKit

def it_ (s : ByteArray) : Nat → Nat → Nat
  | 0, k => k
  | n + 1, k => it_ s n (rbn s k)
/-- From k on, byte by byte, there is no closing bracket. -/
def NCa (s : ByteArray) (k : Nat) : Prop := ∀ n, it_ s n k < s.size → gb s (it_ s n k) ≠ 93
theorem rbn_ge (s : ByteArray) (k : Nat) : k < rbn s k := by unfold rbn; split <;> omega
theorem it_ge (s : ByteArray) : ∀ n k, k ≤ it_ s n k
  | 0, _ => Nat.le_refl _
  | n + 1, k => Nat.le_trans (Nat.le_of_lt (rbn_ge s k)) (it_ge s n (rbn s k))
theorem NCa.next {s : ByteArray} {k : Nat} (h : NCa s k) : NCa s (rbn s k) := fun n => h (n + 1)
theorem NCa.here {s : ByteArray} {k : Nat} (h : NCa s k) (hk : k < s.size) : gb s k ≠ 93 := h 0 hk
theorem NCa.mk {s : ByteArray} {k : Nat} (h : k < s.size → gb s k ≠ 93) (h' : NCa s (rbn s k)) : NCa s k
  | 0 => h
  | n + 1 => h' n
theorem NCa.far {s : ByteArray} {k : Nat} (h : s.size ≤ k) : NCa s k := fun n hn => absurd hn (by have := it_ge s n k; omega)
theorem rbn_plain {s : ByteArray} {k : Nat} (h : gb s k ≠ 92) : rbn s k = k + 1 := by unfold rbn; rw [if_neg (fun e => h e.1)]

theorem rs_open (s : ByteArray) : ∀ (n k : Nat) (f : Nat → Bool), s.size < n + k → (rs s n k false f).2 = 0 → NCa s k := by
  intro n
  induction n with
  | zero => intro k f h _; exact NCa.far (by omega)
  | succ n ih =>
    intro k f h h0
    by_cases hk : k < s.size
    · have b1 := rbn_le s k hk
      by_cases h93 : gb s k = 93
      · rw [rs_close s k f n hk h93] at h0; simp at h0
      · have hn : ¬ (gb s k = 93 ∧ false = false) := fun e => h93 e.1
        by_cases hs : rbn s k + 1 < s.size ∧ gb s (rbn s k) = 45 ∧ gb s (rbn s k + 1) ≠ 93
        · have b2 := rbn_le s (rbn s k + 1) hs.1
          rw [rs_span s k false f n hk hn hs] at h0
          have e : rbn s (rbn s k) = rbn s k + 1 := rbn_plain (by rw [hs.2.1]; decide)
          refine NCa.mk (fun _ => h93) (NCa.mk (fun _ => by rw [hs.2.1]; decide) ?_)
          rw [e]
          exact NCa.mk (fun _ => hs.2.2) (ih _ _ (by omega) h0)
        · rw [rs_one s k false f n hk hn hs] at h0
          exact NCa.mk (fun _ => h93) (ih _ _ (by omega) h0)
    · exact NCa.far (by omega)

theorem rs_none (s : ByteArray) : ∀ (n k : Nat) (fb : Bool) (f : Nat → Bool), NCa s k → (rs s n k fb f).2 = 0 := by
  intro n
  induction n with
  | zero => intro k fb f _; rfl
  | succ n ih =>
    intro k fb f h
    by_cases hk : k < s.size
    · have h93 := h.here hk
      have hn : ¬ (gb s k = 93 ∧ fb = false) := fun e => h93 e.1
      by_cases hs : rbn s k + 1 < s.size ∧ gb s (rbn s k) = 45 ∧ gb s (rbn s k + 1) ≠ 93
      · rw [rs_span s k fb f n hk hn hs]
        have e : rbn s (rbn s k) = rbn s k + 1 := rbn_plain (by rw [hs.2.1]; decide)
        exact ih _ _ _ (by rw [← e]; exact h.next.next.next)
      · rw [rs_one s k fb f n hk hn hs]
        exact ih _ _ _ h.next
    · rw [rs_end s k fb f n hk]

theorem rs_first (s : ByteArray) (n k : Nat) (f : Nat → Bool) (hn : s.size < n + k) (h0 : (rs s n k true f).2 = 0) : NCa s (rbn s k) := by
  cases n with
  | zero => exact NCa.far (by have := rbn_ge s k; omega)
  | succ n =>
    by_cases hk : k < s.size
    · have b1 := rbn_le s k hk
      have hne : ¬ (gb s k = 93 ∧ true = false) := fun e => by cases e.2
      by_cases hs : rbn s k + 1 < s.size ∧ gb s (rbn s k) = 45 ∧ gb s (rbn s k + 1) ≠ 93
      · have b2 := rbn_le s (rbn s k + 1) hs.1
        rw [rs_span s k true f n hk hne hs] at h0
        have e : rbn s (rbn s k) = rbn s k + 1 := rbn_plain (by rw [hs.2.1]; decide)
        refine NCa.mk (fun _ => by rw [hs.2.1]; decide) ?_
        rw [e]
        exact NCa.mk (fun _ => hs.2.2) (rs_open s _ _ _ (by omega) h0)
      · rw [rs_one s k true f n hk hne hs] at h0
        exact rs_open s _ _ _ (by omega) h0
    · exact NCa.far (by have := rbn_ge s k; omega)

def Inv (s : ByteArray) (j : Nat) : Prop := NCa s j ∨ NCa s (rbn s j) ∨ (gb s j = 33 ∧ NCa s (rbn s (rbn s j)))
theorem Inv.next {s : ByteArray} {j : Nat} (h : Inv s j) : Inv s (rbn s j) := by
  rcases h with h | h | h
  · exact .inl h.next
  · exact .inl h
  · exact .inr (.inl h.2)
theorem Inv.open_ {s : ByteArray} {j : Nat} (h : Inv s j) (hj : gb s j = 91) : (rdSet s (j + 1)).2 = 0 := by
  have e : rbn s j = j + 1 := rbn_plain (by rw [hj]; decide)
  have hn : NCa s (j + 1) := by
    rw [← e]
    rcases h with h | h | h
    · exact h.next
    · exact h
    · rw [hj] at h; exact absurd h.1 (by decide)
  unfold rdSet
  refine rs_none s _ _ _ _ ?_
  unfold iOf nbOf
  split
  · next h =>
    have h33 : gb s (j + 1) = 33 := by simp at h; exact h.2
    rw [← rbn_plain (by rw [h33]; decide : gb s (j + 1) ≠ 92)]
    exact hn.next
  · exact hn

theorem pcs_free (s : ByteArray) : ∀ (n j : Nat), Inv s j → pcs s n j false = pcs s n j true := by
  intro n
  induction n with
  | zero => intro j _; rfl
  | succ n ih =>
    intro j h
    rw [pcs, pcs]
    by_cases hj : j < s.size
    · rw [if_pos hj, if_pos hj]
      by_cases h42 : gb s j = 42
      · rw [if_pos h42, if_pos h42, ih (j + 1) (by rw [← rbn_plain (by rw [h42]; decide : gb s j ≠ 92)]; exact h.next)]
      · rw [if_neg h42, if_neg h42]
        by_cases h63 : gb s j = 63
        · rw [if_pos h63, if_pos h63, ih (j + 1) (by rw [← rbn_plain (by rw [h63]; decide : gb s j ≠ 92)]; exact h.next)]
        · rw [if_neg h63, if_neg h63, if_neg (fun e => by cases e.2)]
          by_cases h91 : gb s j = 91
          · rw [if_pos ⟨h91, rfl⟩, if_neg (by rw [h.open_ h91]; simp)]
          · rw [if_neg (fun e => h91 e.1), ih _ h.next]
    · rw [if_neg hj, if_neg hj]

theorem inv_open {s : ByteArray} {k : Nat} (h : gb s k = 91) (h0 : (rdSet s (k + 1)).2 = 0) : Inv s (rbn s k) := by
  rw [rbn_plain (by rw [h]; decide : gb s k ≠ 92)]
  unfold rdSet at h0
  have := rs_first s _ _ _ (by omega) h0
  unfold iOf nbOf at this
  split at this
  · next hh =>
    have h33 : gb s (k + 1) = 33 := by simp at hh; exact hh.2
    refine .inr (.inr ⟨h33, ?_⟩)
    rw [rbn_plain (by rw [h33]; decide : gb s (k + 1) ≠ 92)]
    exact this
  · exact .inr (.inl this)

theorem pcs_open' {s : ByteArray} {k : Nat} (hk : k < s.size) (h : gb s k = 91) (h0 : (rdSet s (k + 1)).2 = 0) : pcs s (s.size + 1 - k) k true = itLit (rb s k) :: pcs s (s.size - k) (rbn s k) true := by
  rw [pcs_open hk h h0, pcs_free s _ _ (inv_open h h0)]
end Go.Proofs.Ytpgaeldjiiaoiaa
