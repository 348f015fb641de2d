import Derived.Test.YtdiggmlickdfdaaDoorA
import Derived.Lib.SlicesCompact
import Derived.Sort.OwnSorted
namespace Go.Proofs.YtdiggmlickdfdaaDoor
open Go.Lib
theorem bs_trans {a b c : Bs} (h : a < b) (k : b < c) : a < c := List.lt_trans h k
theorem bs_irrefl (a : Bs) : ¬ a < a := List.lt_irrefl a
theorem bs_eq {a b : Bs} (h : ¬ a < b) (k : ¬ b < a) : a = b := List.le_antisymm (List.not_lt.1 k) (List.not_lt.1 h)
theorem bs_le {a b : Bs} : a ≤ b ↔ ¬ b < a := List.not_lt.symm
theorem bs_lt_of {a b c : Bs} (h : a ≤ b) (k : b < c) : a < c := by
  by_cases e : a = b
  · rw [e]; exact k
  · refine bs_trans ?_ k
    by_cases l : a < b
    · exact l
    · exact absurd (bs_eq l (bs_le.1 h)) e

/-- Rising, each once. -/
abbrev Ris (l : List Bs) : Prop := l.Pairwise (· < ·)
theorem ris_eq : ∀ {l m : List Bs}, Ris l → Ris m → (∀ x, x ∈ l ↔ x ∈ m) → l = m
  | [], [], _, _, _ => rfl
  | [], b :: m, _, _, h => by have := (h b).2 (by simp); simp at this
  | a :: l, [], _, _, h => by have := (h a).1 (by simp); simp at this
  | a :: l, b :: m, hl, hm, h => by
    have hl := List.pairwise_cons.1 hl
    have hm := List.pairwise_cons.1 hm
    have hab : a = b := by
      rcases List.mem_cons.1 ((h a).1 (by simp)) with e | e
      · exact e
      · rcases List.mem_cons.1 ((h b).2 (by simp)) with e2 | e2
        · exact e2.symm
        · exact absurd (bs_trans (hl.1 b e2) (hm.1 a e)) (bs_irrefl _)
    subst hab
    congr 1
    refine ris_eq hl.2 hm.2 fun x => ?_
    have hx := h x
    rw [List.mem_cons, List.mem_cons] at hx
    constructor
    · intro hxl
      rcases hx.1 (.inr hxl) with e | e
      · subst e; exact absurd (hl.1 x hxl) (bs_irrefl _)
      · exact e
    · intro hxm
      rcases hx.2 (.inr hxm) with e | e
      · subst e; exact absurd (hm.1 x hxm) (bs_irrefl _)
      · exact e

theorem compact_mem (zs : List Bs) (x : Bs) : x ∈ compact zs ↔ x ∈ zs := by
  unfold compact compactUpTo
  simp only [List.mem_map, List.mem_filter, List.mem_range]
  constructor
  · rintro ⟨j, ⟨hj, _⟩, rfl⟩
    rw [getElem!_pos _ j (by simpa using hj)]
    simp
  · intro hx
    obtain ⟨j, hj, he⟩ := List.mem_iff_getElem.1 hx
    have key : ∀ j (hj : j < zs.length), zs[j] = x → ∃ a, (a < zs.length ∧ keeps zs.toArray a = true) ∧ zs.toArray[a]! = x := by
      intro j
      induction j with
      | zero =>
        intro hj he
        exact ⟨0, ⟨hj, by simp [keeps]⟩, by rw [getElem!_pos _ 0 (by simpa using hj)]; simpa using he⟩
      | succ j ih =>
        intro hj he
        by_cases hk : keeps zs.toArray (j + 1) = true
        · exact ⟨j + 1, ⟨hj, hk⟩, by rw [getElem!_pos _ (j + 1) (by simpa using hj)]; simpa using he⟩
        · refine ih (by omega) ?_
          have hj' : j < zs.length := by omega
          simp only [keeps] at hk
          rw [getElem!_pos _ (j + 1) (by simpa using hj)] at hk
          simp [hj'] at hk
          simpa [← he] using hk.symm
    exact key j hj he
theorem compact_ris {zs : List Bs} (h : zs.Pairwise (· ≤ ·)) : Ris (compact zs) := by
  unfold compact compactUpTo
  unfold Ris
  rw [List.pairwise_map]
  have h1 : (((List.range zs.length).filter (keeps zs.toArray))).Pairwise (· < ·) := List.Pairwise.filter _ List.pairwise_lt_range
  refine List.Pairwise.imp_of_mem ?_ h1
  intro i j hi hj hij
  simp only [List.mem_filter, List.mem_range] at hi hj
  obtain ⟨hjl, hk⟩ := hj
  obtain ⟨hil, _⟩ := hi
  rw [getElem!_pos _ i (by simpa using hil), getElem!_pos _ j (by simpa using hjl)]
  obtain ⟨k, rfl⟩ : ∃ k, j = k + 1 := ⟨j - 1, by omega⟩
  have hkl : k < zs.length := by omega
  rw [List.pairwise_iff_getElem] at h
  have hle : zs[i] ≤ zs[k] := by
    by_cases e : i = k
    · subst e; exact List.le_refl _
    · exact h i k hil hkl (by omega)
  have hle2 : zs[k] ≤ zs[k + 1] := h k (k + 1) hkl hjl (by omega)
  have hne : zs[k] ≠ zs[k + 1] := by
    intro e
    simp only [keeps] at hk
    rw [getElem!_pos _ (k + 1) (by simpa using hjl)] at hk
    simp [hkl, e] at hk
  have hlt : zs[k] < zs[k + 1] := by
    by_cases l : zs[k] < zs[k + 1]
    · exact l
    · exact absurd (bs_eq l (bs_le.1 hle2)) hne
  simpa using bs_lt_of hle hlt

theorem sort_le (l : List Bs) : (l.mergeSort fun x y => decide (x ≤ y)).Pairwise (· ≤ ·) := by
  have := List.pairwise_mergeSort (le := fun x y : Bs => decide (x ≤ y)) (fun a b c h k => by
    simp only [decide_eq_true_eq] at *; exact List.le_trans h k) (fun a b => by
    simp only [Bool.or_eq_true, decide_eq_true_eq]; exact List.le_total a b) l
  exact this.imp (fun h => by simpa using h)

/-- A name into a rising list, once. -/
def putS (l : List Bs) (x : Bs) : List Bs :=
  let k := (l.takeWhile fun y => decide (y < x)).length
  if l[k]? = some x then l else l.take k ++ [x] ++ l.drop k
theorem putS_spec {l : List Bs} (h : Ris l) (x : Bs) : Ris (putS l x) ∧ ∀ y, y ∈ putS l x ↔ y = x ∨ y ∈ l := by
  induction l with
  | nil => simp [putS]
  | cons a l ih =>
    have h := List.pairwise_cons.1 h
    obtain ⟨hr, hm⟩ := ih h.2
    by_cases hax : a < x
    · have e : putS (a :: l) x = a :: putS l x := by
        unfold putS
        simp only [List.takeWhile_cons, hax, decide_true, if_true, List.length_cons, List.getElem?_cons_succ]
        split
        · rfl
        · simp
      rw [e]
      refine ⟨List.pairwise_cons.2 ⟨fun y hy => ?_, hr⟩, fun y => ?_⟩
      · rcases (hm y).1 hy with rfl | hy
        · exact hax
        · exact h.1 y hy
      · rw [List.mem_cons, hm y, List.mem_cons]
        constructor
        · rintro (h | h | h)
          · exact .inr (.inl h)
          · exact .inl h
          · exact .inr (.inr h)
        · rintro (h | h | h)
          · exact .inr (.inl h)
          · exact .inl h
          · exact .inr (.inr h)
    · have e : putS (a :: l) x = if a = x then a :: l else x :: a :: l := by
        unfold putS
        simp only [List.takeWhile_cons, hax, decide_false, Bool.false_eq_true, if_false, List.length_nil]
        simp
      rw [e]
      by_cases hae : a = x
      · rw [if_pos hae]
        refine ⟨List.pairwise_cons.2 h, fun y => ?_⟩
        rw [List.mem_cons]
        constructor
        · exact fun h => .inr h
        · rintro (h | h)
          · exact .inl (by rw [h, hae])
          · exact h
      · rw [if_neg hae]
        refine ⟨List.pairwise_cons.2 ⟨fun y hy => ?_, List.pairwise_cons.2 h⟩, fun y => by rw [List.mem_cons]⟩
        have hxa : x < a := by
          by_cases l : x < a
          · exact l
          · exact absurd (bs_eq hax l) hae
        rcases List.mem_cons.1 hy with rfl | hy
        · exact hxa
        · exact bs_trans hxa (h.1 y hy)
theorem fold_spec (L : List Bs) : ∀ (l : List Bs), Ris l → Ris (L.foldl putS l) ∧ ∀ y, y ∈ L.foldl putS l ↔ y ∈ l ∨ y ∈ L := by
  induction L with
  | nil => intro l h; simp [h]
  | cons x L ih =>
    intro l h
    obtain ⟨h1, h2⟩ := putS_spec h x
    obtain ⟨h3, h4⟩ := ih _ h1
    refine ⟨h3, fun y => ?_⟩
    rw [List.foldl_cons, h4 y, h2 y, List.mem_cons]
    constructor
    · rintro ((h | h) | h)
      · exact .inr (.inl h)
      · exact .inl h
      · exact .inr (.inr h)
    · rintro (h | h | h)
      · exact .inl (.inr h)
      · exact .inl (.inl h)
      · exact .inr h
/-- Sorted and made single is what is put in one by one. -/
theorem sort_fold (L : List Bs) : compact (L.mergeSort fun x y => decide (x ≤ y)) = L.foldl putS [] := by
  obtain ⟨h1, h2⟩ := fold_spec L [] List.Pairwise.nil
  refine ris_eq (compact_ris (sort_le L)) h1 fun x => ?_
  rw [compact_mem, h2 x, List.mem_mergeSort]
  simp
end Go.Proofs.YtdiggmlickdfdaaDoor
