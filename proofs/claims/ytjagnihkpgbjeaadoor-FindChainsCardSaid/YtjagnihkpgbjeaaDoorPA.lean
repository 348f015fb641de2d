import Derived.Test.YtjagnihkpgbjeaaDoorA
import Derived.Sort.OwnSorted
import Derived.Laws.AppendOwnNone
namespace Go.Proofs.YtjagnihkpgbjeaaDoor
open Go.RowKit

theorem elemS : Tryd.prog.elem 29 = 9 := by kernel_rfl
theorem slice_from (g off n c k : Nat) (hk : k ≤ n) :
    ∃ off', (k < c → off' = off + k) ∧ ∀ w, (Instr.slice 29 (.slice (some ⟨g, off, none⟩) n c) (some (.int .i64 k)) none none).run Tryd.prog w = .ok (.slice (some ⟨g, off', none⟩) (n - k) (c - k)) w := by
  refine ⟨if c = k then off else off + k, fun h => by rw [if_neg (by omega)], fun w => ?_⟩
  rw [run_slice_l (P := Tryd.prog) (w := w) 29 (some ⟨g, off, none⟩) n c (by rw [elemS]; exact Tryd.underlying29) .i64 (k : Int) (by omega) (by omega), elemS, Tryd.sizeOf9]
  simp only [Result.andThen, sliced, Int.toNat_natCast]
  by_cases h : c = k
  · simp [h]
  · simp [h, Addr.add]
theorem slice_to (g off n c k : Nat) (hk : k ≤ c) :
    ∀ w, (Instr.slice 29 (.slice (some ⟨g, off, none⟩) n c) none (some (.int .i64 k)) none).run Tryd.prog w = .ok (.slice (some ⟨g, off, none⟩) k c) w := by
  intro w
  rw [run_slice_h (P := Tryd.prog) (w := w) 29 (some ⟨g, off, none⟩) n c (by rw [elemS]; exact Tryd.underlying29) .i64 (k : Int) (by omega) (by omega), elemS, Tryd.sizeOf9]
  simp [Result.andThen, sliced, Addr.add]
theorem slice_nil_from : ∀ w, (Instr.slice 29 (.slice none 0 0) (some (.int .i64 0)) none none).run Tryd.prog w = .ok (.slice none 0 0) w := by
  intro w
  have := run_slice_l (P := Tryd.prog) (w := w) 29 none 0 0 (by rw [elemS]; exact Tryd.underlying29) .i64 0 (by omega) (by omega)
  rw [this, elemS, Tryd.sizeOf9]
  simp [Result.andThen, sliced]
theorem slice_nil_to : ∀ w, (Instr.slice 29 (.slice none 0 0) none (some (.int .i64 0)) none).run Tryd.prog w = .ok (.slice none 0 0) w := by
  intro w
  have := run_slice_h (P := Tryd.prog) (w := w) 29 none 0 0 (by rw [elemS]; exact Tryd.underlying29) .i64 0 (by omega) (by omega)
  rw [this, elemS, Tryd.sizeOf9]
  simp [Result.andThen, sliced]

/-- The texts L lie behind the slice v. -/
def SlS (w : World) (v : Value) (L : List Bs) : Prop :=
  (v = .slice none 0 0 ∧ L = []) ∨ ∃ g off c, v = .slice (some ⟨g, off, none⟩) L.length c ∧ L.length ≤ c ∧ c ≤ 9223372036854775807 ∧ g < w.heap.size ∧ ∀ i (h : i < L.length), w.cell? ⟨g, off + i, none⟩ = some (encStr L[i])
theorem SlS.below {w w' : World} {v : Value} {L : List Bs} (h : SlS w v L) (hb : Below w.heap.size w w') : SlS w' v L := by
  rcases h with h | ⟨g, off, c, h1, h2, h3, h4, h5⟩
  · exact .inl h
  · exact .inr ⟨g, off, c, h1, h2, h3, Nat.lt_of_lt_of_le h4 hb.size, fun i hi => by rw [hb.cell (p := ⟨g, off + i, none⟩) h4]; exact h5 i hi⟩
theorem SlS.own {w : World} {B : Nat} {v : Value} {L : List Bs} (h : w.ownsRow B 9 1 v L.length (L.map encStr)) : SlS w v L := by
  rcases h.2 with ⟨h1, h2⟩ | ⟨g, c, cur, h1, _, hg, h2, h3, h4⟩
  · exact .inl ⟨h1, List.length_eq_zero_iff.1 h2⟩
  · refine .inr ⟨g, 0, c, h1, h2, h3, (Array.getElem?_eq_some_iff.1 hg).1, fun i hi => ?_⟩
    rw [h1] at h
    have := World.ownsRow.cellAt h i (by omega)
    rw [Nat.zero_add, this]
    simp [hi]
theorem SlS.len {w : World} {v : Value} {L : List Bs} (h : SlS w v L) : ∃ a c, v = .slice a L.length c := by
  rcases h with ⟨h, rfl⟩ | ⟨g, off, c, h, _⟩
  · exact ⟨_, _, h⟩
  · exact ⟨_, _, h⟩
theorem own_em (v : Value) : v.ownBlock = none ∨ v.ownBlock ≠ none := Classical.em _
theorem addN1 (g i : Nat) : (⟨g, 0, none⟩ : Addr).add i = ⟨g, i, none⟩ := by unfold Addr.add; by_cases h : i = 0 <;> simp [h]
theorem btrans {a b c : World} (h1 : Below a.heap.size a b) (h2 : Below b.heap.size b c) : Below a.heap.size a c := h1.trans (h2.mono h1.size)
/-- The list that was, or a row of the call's own. -/
def SlN (w0 w : World) (v0 v : Value) (L0 L : List Bs) : Prop := (v = v0 ∧ L = L0) ∨ w.ownsRow w0.heap.size 9 1 v L.length (L.map encStr)
theorem SlN.own {w0 w : World} {v0 v : Value} {L0 L : List Bs} {B : Nat} (h : w.ownsRow B 9 1 v L.length (L.map encStr)) (hB : w0.heap.size ≤ B) : SlN w0 w v0 v L0 L := by
  refine .inr ⟨h.1, ?_⟩
  rcases h.2 with hn | ⟨g, cap, cur, e, h1, r⟩
  · exact .inl hn
  · exact .inr ⟨g, cap, cur, e, Nat.le_trans hB h1, r⟩
end Go.Proofs.YtjagnihkpgbjeaaDoor
