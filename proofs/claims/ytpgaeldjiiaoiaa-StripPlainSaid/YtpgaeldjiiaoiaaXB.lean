import Derived.Test.YtpgaeldjiiaoiaaXA
namespace Go.Proofs.Ytpgaeldjiiaoiaa
open Go.RowKit
set_option linter.unusedVariables false

/-- A row of bools in block g. -/
def BR (w : World) (g n : Nat) (f : Nat → Bool) : Prop := ∃ cur, w.heap[g]? = some (.cells cur 4 (0, 0)) ∧ n ≤ cur.size ∧ ∀ k, k < n → cur[k]? = some (.bool (f k))
theorem BR.lt {w : World} {g n : Nat} {f : Nat → Bool} (h : BR w g n f) : g < w.heap.size := by
  obtain ⟨cur, h1, _⟩ := h
  exact (Array.getElem?_eq_some_iff.1 h1).1
theorem BR.cell {w : World} {g n : Nat} {f : Nat → Bool} (h : BR w g n f) {k : Nat} (hk : k < n) : w.cell? ⟨g, k, none⟩ = some (.bool (f k)) := by
  obtain ⟨cur, h1, _, h3⟩ := h
  rw [cell_of_row _ _ _ _ _ _ h1]
  exact h3 k hk
theorem BR.free {w : World} {g n : Nat} {f : Nat → Bool} (h : BR w g n f) (k : Nat) : w.frozen? ⟨g, k, none⟩ = false := by
  obtain ⟨cur, h1, _⟩ := h
  unfold World.frozen?
  simp only [h1]
  rfl
theorem BR.set {w : World} {g n : Nat} {f f' : Nat → Bool} (h : BR w g n f) {k : Nat} (hk : k < n) (b : Bool) (e : ∀ j, j < n → f' j = if j = k then b else f j) : BR (w.setCell ⟨g, k, none⟩ (.bool b)) g n f' := by
  obtain ⟨cur, h1, h2, h3⟩ := h
  refine ⟨cur.setIfInBounds k (.bool b), ?_, by simpa using h2, fun j hj => ?_⟩
  · simp only [World.setCell, Array.getElem?_modify, h1]
    simp
  · rw [Array.getElem?_setIfInBounds, e j hj]
    by_cases hjk : k = j
    · subst hjk; rw [if_pos rfl, if_pos rfl, if_pos (by omega)]
    · rw [if_neg hjk, if_neg (fun e => hjk e.symm)]; exact h3 j hj
theorem BR.congr {w : World} {g n : Nat} {f f' : Nat → Bool} (h : BR w g n f) (e : ∀ j, j < n → f j = f' j) : BR w g n f' := by
  obtain ⟨cur, h1, h2, h3⟩ := h
  exact ⟨cur, h1, h2, fun k hk => by rw [h3 k hk, e k hk]⟩
theorem BR.kept {w w' : World} {g n : Nat} {f : Nat → Bool} {row : Option Nat} (h : BR w g n f) (hg : w.grownBy w' row) (hr : row ≠ some g) : BR w' g n f := by
  have hl := h.lt
  obtain ⟨cur, h1, h2, h3⟩ := h
  exact ⟨cur, by rw [hg.block g hl (fun e => hr e.symm)]; exact h1, h2, h3⟩
theorem BR.drewN {w : World} {g n : Nat} {f : Nat → Bool} (h : BR w g n f) (m : Nat) : BR (w.drewN m) g n f := h
end Go.Proofs.Ytpgaeldjiiaoiaa
