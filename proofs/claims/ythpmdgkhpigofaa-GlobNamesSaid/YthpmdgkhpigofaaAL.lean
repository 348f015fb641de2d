import Derived.Test.YthpmdgkhpigofaaAJ
import Derived.Test.YthpmdgkhpigofaaAK
namespace Go.Proofs.Ythpmdgkhpigofaa
open Go.RowKit Go.Sort Go.Lib

theorem Sort_own (v : Value) (B : Nat) (L : List Bs) (w : World) (hown : w.ownsRow B 9 1 v L.length (L.map encStr)) (hB : B ≤ w.heap.size) (hL : L.length ≤ 100000) :
    Calls Try.prog 25 #[v] w fun e w' => e = .returned (.tuple #[]) ∧ w'.ownsRow B 9 1 v L.length ((L.mergeSort fun x y => decide (x ≤ y)).map encStr) ∧ Below B w w' := by
  rcases hown.2 with ⟨rfl, h0⟩ | ⟨g, c, cur, rfl, hb, hg, h1, h2, h3, h4⟩
  · obtain rfl : L = [] := List.length_eq_zero_iff.1 h0
    refine (Try.slices_Sort_string_none none 0 w).mono ?_
    rintro e w' ⟨rfl, rfl⟩
    exact ⟨rfl, by simpa using hown, (Below.refl _ _).mono hB⟩
  · refine (Try.slices_Sort_string g 0 c L w (holds_of_block hg (by simpa using h4)) (Array.getElem?_eq_some_iff.1 hg).1 (by omega)).mono ?_
    rintro e w' ⟨rfl, n, os, rfl⟩
    exact ⟨rfl, ownsRow_sorted (by simp) hb hg h1 h2 h3, ((Below.refl _ w).mono hB).grown (grownBy_sorted _) hB (fun j hj => by simp at hj; omega)⟩

theorem compact_len (zs : List Bs) : (compact zs).length ≤ zs.length := by
  unfold compact compactUpTo
  rw [List.length_map]
  exact Nat.le_trans (List.length_filter_le _ _) (by simp)

theorem Compact_own (v : Value) (B : Nat) (L : List Bs) (w : World) (hown : w.ownsRow B 9 1 v L.length (L.map encStr)) (hB : B ≤ w.heap.size) (hL : L.length ≤ 100000) :
    Calls Try.prog 26 #[v] w fun e w' => ∃ v', e = .returned v' ∧ SlS w' v' (compact L) ∧ Below B w w' := by
  rcases hown.2 with ⟨rfl, h0⟩ | ⟨g, c, cur, rfl, hb, hg, h1, h2, h3, h4⟩
  · obtain rfl : L = [] := List.length_eq_zero_iff.1 h0
    refine (Try.slices_Compact_string_empty none 0 w).mono ?_
    rintro e w' ⟨rfl, rfl⟩
    exact ⟨_, rfl, .inl ⟨rfl, by simp [compact, compactUpTo]⟩, (Below.refl _ _).mono hB⟩
  · refine (Try.slices_Compact_string g 0 c L w (holds_of_block hg (by simpa using h4)) (by omega) h1).mono ?_
    rintro e w' ⟨rfl, q, rfl⟩
    have hcl := compact_len L
    have hown' := ownsRow_sorted (w := w) (n := q) (os := #[]) (ss := L) (ts := compact L ++ List.replicate (L.length - (compact L).length) []) (by simp; omega) hb hg h1 h2 h3
    rw [grow_empty] at hown'
    have hgb := grownBy_sorted (w := w) (g := g) (n := q) (os := #[]) (compact L ++ List.replicate (L.length - (compact L).length) []).toArray
    rw [grow_empty] at hgb
    refine ⟨_, rfl, .inr ⟨g, 0, c, rfl, by omega, ?_, ?_, fun i hi => ?_⟩, ((Below.refl _ w).mono hB).grown hgb hB (fun j hj => by simp at hj; omega)⟩
    · unfold maxLen at h2; omega
    · exact Nat.lt_of_lt_of_le (Array.getElem?_eq_some_iff.1 hg).1 hgb.size
    · have := World.ownsRow.cellAt hown' i (by omega)
      rw [Nat.zero_add, this]
      rw [List.map_append, List.getElem?_append_left (by simpa using hi), List.getElem?_map, List.getElem?_eq_getElem hi]
      rfl
end Go.Proofs.Ythpmdgkhpigofaa
