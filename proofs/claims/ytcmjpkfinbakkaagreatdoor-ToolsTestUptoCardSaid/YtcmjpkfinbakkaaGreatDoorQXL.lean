import Derived.Test.YtcmjpkfinbakkaaGreatDoorQXG
import Derived.Laws.OwnMore
namespace Go.Proofs.YtcmjpkfinbakkaaGreatDoor.Vf
set_option maxRecDepth 100000
open Go.RowKit Go.Maps Go.ChangeMaps
set_option linter.unusedVariables false

/-- The words L lie at a slice. -/
structure ArgsAt (w : World) (g off c : Nat) (L : List ByteArray) : Prop where
  lt : g < w.heap.size
  cap : L.length ≤ c
  cell : ∀ i (h : i < L.length), w.cell? ⟨g, off + i, none⟩ = some (.string L[i])
theorem ArgsAt.below {w w' : World} {g off c : Nat} {L : List ByteArray} (h : ArgsAt w g off c L) (hb : Below w.heap.size w w') : ArgsAt w' g off c L :=
  ⟨Nat.lt_of_lt_of_le h.lt hb.size, h.cap, fun i hi => (hb.cell (p := ⟨g, off + i, none⟩) h.lt).trans (h.cell i hi)⟩
theorem ArgsAt.tail {w : World} {g off c : Nat} {x : ByteArray} {L : List ByteArray} (h : ArgsAt w g off c (x :: L)) : ArgsAt w g (off + 1) (c - 1) L :=
  ⟨h.lt, by have := h.cap; simp at this; omega, fun i hi => by have := h.cell (i + 1) (by simp; omega); simpa [Nat.add_assoc, Nat.add_comm 1 i] using this⟩
def bang : ByteArray := ⟨#[33]⟩
section
variable {f : Nat} {T : Tr}
/-- Test tells of the words L always the same. -/
abbrev Tells3 (f : Nat) (T : Tr) (L : List ByteArray) (v : Bool) (n : Int) : Prop := ∀ w g off c, Here w f T → ArgsAt w g off c L →
  Calls Tryz.prog 112 #[.pointer (some ⟨f, 0, none⟩), .string ⟨#[47]⟩, .slice (some ⟨g, off, none⟩) L.length c] w fun e w' => e = .returned (.tuple #[.bool v, .int .i64 n]) ∧ Below w.heap.size w w'
theorem tells_1 (a : ByteArray) : Tells3 f T [a] (!a.toList.isEmpty) 0 := fun w g off c hH h =>
  test1 a g off c w h.lt (by simpa using h.cell 0 (by simp))
theorem tells_2 (a b : ByteArray) (hb : b.size ≤ 1100000) : ∃ v n, Tells3 f T [a, b] v n := by
  obtain ⟨v, n, h⟩ := unary_fun (f := f) (T := T) a b hb
  exact ⟨v, n, fun w g off c hH hA => test2 (T := T) a b g off c v n w hA.lt (by simpa using hA.cell 0 (by simp)) (hA.cell 1 (by simp)) hH h⟩
theorem tells_bang2 (b : ByteArray) : Tells3 f T [bang, b] b.toList.isEmpty 0 := fun w g off c hH hA =>
  test2 (T := T) bang b g off c _ _ w hA.lt (by simpa using hA.cell 0 (by simp)) (hA.cell 1 (by simp)) hH (fun w _ => unary_bang b w)
theorem tells_3b (a op b : ByteArray) (ha : a.size ≤ 1100000) (hb : b.size ≤ 1100000) (hop : op ∈ Ck.nine) : ∃ v n, Tells3 f T [a, op, b] v n := by
  obtain ⟨v, n, h⟩ := binary_fun (f := f) (T := T) a op b ha hb hop
  exact ⟨v, n, fun w g off c hH hA => test3b (T := T) a op b g off c v n w hA.lt (by simpa using hA.cell 0 (by simp)) (hA.cell 1 (by simp)) (hA.cell 2 (by simp)) hop hH h⟩
theorem tells_3e (a op b : ByteArray) (hop : op ∉ Ck.nine) (ha : (a.toList == [33]) = false) : Tells3 f T [a, op, b] false 2 := fun w g off c hH hA =>
  test3e a op g off c w hA.lt (by simpa using hA.cell 0 (by simp)) (hA.cell 1 (by simp)) hop ha
theorem tells_3n (op b : ByteArray) (hop : op ∉ Ck.nine) (v : Bool) (n : Int) (h : Tells3 f T [op, b] v n) : Tells3 f T [bang, op, b] (n == 0 && !v) n := fun w g off c hH hA =>
  test3n op g off c v n w hA.lt hA.cap (hA.cell 0 (by simp)) (hA.cell 1 (by simp)) hop (fun w' hb => h w' g (off + 1) (c - 1) (hH.below hb) (hA.below hb).tail)
theorem tells_4n (a op b : ByteArray) (v : Bool) (n : Int) (h : Tells3 f T [a, op, b] v n) : Tells3 f T [bang, a, op, b] (n == 0 && !v) n := fun w g off c hH hA =>
  test4n g off c v n w hA.lt hA.cap (hA.cell 0 (by simp)) (fun w' hb => h w' g (off + 1) (c - 1) (hH.below hb) (hA.below hb).tail)
/-- What Test tells of one to three words, and of the same behind a !. -/
theorem tells_all (L : List ByteArray) (h1 : 1 ≤ L.length) (h3 : L.length ≤ 3) (hs : ∀ x ∈ L, x.size ≤ 1100000) : ∃ v n v2 n2, Tells3 f T L v n ∧ Tells3 f T (bang :: L) v2 n2 ∧ ((∃ a b, L = [a, b] ∧ a ∈ Ck.nine) ∨ (n2 = n ∧ v2 = (n == 0 && !v))) := by
  match L, h1, h3 with
  | [a], _, _ => exact ⟨_, _, _, _, tells_1 a, tells_bang2 a, .inr ⟨rfl, by simp⟩⟩
  | [a, b], _, _ =>
    obtain ⟨v, n, h⟩ := tells_2 (f := f) (T := T) a b (hs b (by simp))
    by_cases ha : a ∈ Ck.nine
    · obtain ⟨v2, n2, h2⟩ := tells_3b (f := f) (T := T) bang a b (by decide) (hs b (by simp)) ha
      exact ⟨v, n, v2, n2, h, h2, .inl ⟨a, b, rfl, ha⟩⟩
    · exact ⟨v, n, _, _, h, tells_3n a b ha v n h, .inr ⟨rfl, rfl⟩⟩
  | [a, op, b], _, _ =>
    have key : ∃ v n, Tells3 f T [a, op, b] v n := by
      by_cases hop : op ∈ Ck.nine
      · exact tells_3b a op b (hs a (by simp)) (hs b (by simp)) hop
      · cases ha : (a.toList == [33])
        · exact ⟨_, _, tells_3e a op b hop ha⟩
        · cases eq_bs ha
          obtain ⟨v, n, h⟩ := tells_2 (f := f) (T := T) op b (hs b (by simp))
          exact ⟨_, _, tells_3n op b hop v n h⟩
    obtain ⟨v, n, h⟩ := key
    exact ⟨v, n, _, _, h, tells_4n a op b v n h, .inr ⟨rfl, rfl⟩⟩
end
/-- append of the words to a !. -/
theorem app_bang (g off c : Nat) (L : List ByteArray) (w : World) (hA : ArgsAt w g off c L) (hl : 1 ≤ L.length) (hl3 : L.length ≤ 3) :
    ∃ g' c' w', (Builtin.append_ #[22, 22] 22 #[.slice (some ⟨w.heap.size, 0, none⟩) 1 1, .slice (some ⟨g, off, none⟩) L.length c]).run Tryz.prog (w.alloc (.cells #[.string ⟨#[33]⟩] 9)) = .ok (.slice (some ⟨g', 0, none⟩) (bang :: L).length c') w' ∧ ArgsAt w' g' 0 c' (bang :: L) ∧ Below w.heap.size w w' := by
  obtain ⟨i0, hi, hz0, hz1, hz2⟩ := info_parts info9
  have hown : (w.alloc (.cells #[.string ⟨#[33]⟩] 9)).ownsRow w.heap.size 9 1 (.slice (some ⟨w.heap.size, 0, none⟩) 1 1) 1 [.string ⟨#[33]⟩] := World.ownsRow_lit w #[.string ⟨#[33]⟩] 1 (Nat.le_refl _) (by unfold maxLen; omega) rfl
  have hb0 : Below w.heap.size w (w.alloc (.cells #[.string ⟨#[33]⟩] 9)) := (Below.refl _ _).alloc (Nat.le_refl _) _
  have hA1 := hA.below hb0
  obtain ⟨v', w', hrun, r1, r2, _⟩ := run_append_own (P := Tryz.prog) (w.alloc (.cells #[.string ⟨#[33]⟩] 9)) w.heap.size 22 22 9 i0 (.string ⟨#[]⟩) 1 16 Tryz.underlying22 hi hz0 hz1 hz2 rfl (by decide) _ 1 _ hown ⟨g, off, none⟩ L.length c (L.map .string) (by simp)
    (fun j y hj => by
      have hjl : j < L.length := by
        by_cases h : j < L.length
        · exact h
        · rw [List.getElem?_eq_none (by simpa using h)] at hj; cases hj
      rw [List.getElem?_map, List.getElem?_eq_getElem hjl] at hj
      injection hj with hj
      rw [← hj]
      have := hA1.cell j hjl
      unfold Addr.add
      by_cases h0 : j = 0
      · subst h0; simpa using this
      · simpa [h0] using this)
    (fun u hu => by obtain ⟨x, _, rfl⟩ := List.mem_map.1 hu; rfl) (by unfold maxLen; omega) (by omega) hb0.size
  rcases r1.2 with ⟨e1, e0⟩ | ⟨g', c', cur, e1, _, _, _, _⟩
  · omega
  · subst e1
    have hlen : (bang :: L).length = 1 + L.length := by simp; omega
    refine ⟨g', c', w', by rw [hlen]; exact hrun, ⟨(r1.lt g' rfl).2, ?_, fun i hi => ?_⟩, ?_⟩
    · rw [hlen]; exact own_cap r1 (by omega)
    · have := World.ownsRow.cellAt r1 i (by rw [← hlen]; omega)
      rw [Nat.zero_add, this]
      cases i with
      | zero => rfl
      | succ i =>
        have hi' : i < L.length := by simpa using hi
        rw [show [Value.string ⟨#[33]⟩] ++ L.map .string = Value.string ⟨#[33]⟩ :: L.map .string from rfl, List.getElem?_cons_succ, List.getElem?_map, List.getElem?_eq_getElem hi']; rfl
    · have ho : Below w.heap.size (w.alloc (.cells #[.string ⟨#[33]⟩] 9)) w' := ⟨r2.os, r2.tape, r2.output, r2.size, fun k hk => r2.block k (by have := hb0.size; omega) (by intro e; have e2 : k = w.heap.size := Option.some.inj e; omega)⟩
      exact hb0.trans ho
end Go.Proofs.YtcmjpkfinbakkaaGreatDoor.Vf
