import Derived.Test.YtdkkfcpnfhfjdaaG
import Derived.Test.YtdkkfcpnfhfjdaaY
namespace Go.Proofs.Ytdkkfcpnfhfjdaa
open Go.RowKit
set_option linter.unusedVariables false

set_option maxHeartbeats 2000000 in
set_option maxRecDepth 100000 in
theorem bd_writeAny (B b : Nat) (bs : List Value) (s : ByteArray) (w : World) (h : Lib.IsBuilder 40 5 B b bs w) (hlen : bs.length + s.size ≤ 140737488355328) (hBw : B ≤ w.heap.size) :
    Calls Try.prog 19 #[.pointer (some ⟨b, 0, none⟩), .string s] w fun e w' => e = .returned (.tuple #[.int .i64 s.size, .nilIface]) ∧ Lib.IsBuilder 40 5 B b (bs ++ Lib.strCells s) w' ∧ Below B w w' ∧ Lib.OthersKept 5 (some b) w w' := by
  obtain ⟨i0, hi, hz0, hz1, hz2⟩ := info_parts bd_byte
  go_enter Try.func19, Try.ntmps19
  go_wp2_with (go_at_call 27; refine (bd_check B b bs _ h).mono ?_)
  rintro e w1 ⟨rfl, ⟨hB, v, hbk, hown, hne⟩, hb1, hk1⟩
  have c0 : w1.cell? ⟨b, 0, none⟩ = some (.pointer (some ⟨b, 0, none⟩)) := by rw [Lib.cell_of_heap hbk]; rfl
  have c1 : w1.cell? ⟨b, 1, none⟩ = some v := by rw [Lib.cell_of_heap hbk]; rfl
  go_wp2_with (at_builtin; refine Lib.wpList_append_own_string _ rfl _ _ 38 9 rfl B 5 i0 Try.underlying38 Try.underlying9 hi hz0 hz1 hz2 _ _ _ rfl hown s rfl (by unfold maxLen; omega) hlen (by have := hb1.size; omega) ?_)
  intro v' w2 hown' hgrow _
  have hb2 : w2.heap[b]? = some (.cells #[.pointer (some ⟨b, 0, none⟩), v] 40 (0, 0)) := by
    rw [hgrow.block b (Array.getElem?_eq_some_iff.1 hbk).1 (fun e => hne e.symm)]
    exact hbk
  have d0 : w2.cell? ⟨b, 0, none⟩ = some (.pointer (some ⟨b, 0, none⟩)) := by rw [Lib.cell_of_heap hb2]; rfl
  have d1 : w2.cell? ⟨b, 1, none⟩ = some v := by rw [Lib.cell_of_heap hb2]; rfl
  have f1 : w2.frozen? ⟨b, 1, none⟩ = false := Lib.frozen_of_heap hb2 1
  obtain ⟨g, cap, rfl⟩ : ∃ g cap, v' = .slice g (bs.length + s.size) cap := by
    rcases hown'.2 with ⟨h1, h0⟩ | ⟨g, cap, cur, hv, _⟩
    · exact ⟨none, 0, by rw [h0]; exact h1⟩
    · exact ⟨_, cap, hv⟩
  go_wp2
  go_ret2
  refine ⟨rfl, .inr ?_, ?_, (hk1.grown hgrow (Lib.ownsRowF_kind (World.ownsRowF_of hown))).setCell ⟨b, 1, none⟩ rfl _⟩
  · exact Lib.BuilderAt.put (T := 40) (e := 5) hB hb2 (bs' := bs ++ Lib.strCells s) (by rw [List.length_append, Lib.strCells_length]; exact hown') (by decide)
  · exact (hb1.grown hgrow (by have := hb1.size; omega) (fun k hk => (hown.lt k hk).1)).setCell (p := ⟨b, 1, none⟩) hB _


theorem cells_add (a : Bs) (s : ByteArray) : Lib.byteCells a ++ Lib.strCells s = Lib.byteCells (a ++ s.data.toList) := by
  rw [Lib.strCells_eq]; simp [Lib.byteCells]
/-- A builder of the call's own that holds l. -/
structure Bd (w0 w : World) (b : Nat) (l : Bs) : Prop where
  bd : Lib.IsBuilder 40 5 w0.heap.size b (Lib.byteCells l) w
  old : Below w0.heap.size w0 w
theorem Bd.new (w0 : World) : Bd w0 (w0.alloc (.cells #[.pointer none, .slice none 0 0] 40)) w0.heap.size [] := ⟨bd_new w0 _ (Nat.le_refl _), (Below.refl _ _).alloc (Nat.le_refl _) _⟩
theorem Bd.below {w0 w w' : World} {b : Nat} {l : Bs} (h : Bd w0 w b l) (hb : Below w.heap.size w w') : Bd w0 w' b l := ⟨bd_below h.bd hb, h.old.trans (hb.mono h.old.size)⟩
theorem Bd.write {w0 w : World} {b : Nat} {l : Bs} (h : Bd w0 w b l) (s : ByteArray) (hl : l.length + s.size ≤ 1000000) :
    Calls Try.prog 19 #[.pointer (some ⟨b, 0, none⟩), .string s] w fun e w' => e = .returned (.tuple #[.int .i64 s.size, .nilIface]) ∧ Bd w0 w' b (l ++ s.data.toList) := by
  refine (bd_writeAny w0.heap.size b _ s w h.bd (by rw [Lib.byteCells_length]; omega) h.old.size).mono ?_
  rintro e w' ⟨rfl, h1, h2, _⟩
  rw [cells_add] at h1
  exact ⟨rfl, h1, h.old.trans h2⟩
theorem Bd.str {w0 w : World} {b : Nat} {l : Bs} (h : Bd w0 w b l) : Calls Try.prog 20 #[.pointer (some ⟨b, 0, none⟩)] w fun e w' => e = .returned (.string ⟨l.toArray⟩) ∧ Below w0.heap.size w0 w' := by
  refine (Try.Builder_String_any w0.heap.size b l w h.bd h.old.size).mono ?_
  rintro e w' ⟨rfl, h2⟩
  exact ⟨rfl, h.old.trans h2⟩
theorem textL_take {L : List Pt} {k : Nat} (h : k < L.length) : textL (p2s (L.take (k + 1))) = textL (p2s (L.take k)) ++ L[k].t.data.toList := by
  rw [take_p2 h, textL_app]; simp [textL, Pt.p2]
theorem textL_le (L : List Pt) (k : Nat) : (textL (p2s (L.take k))).length ≤ (textL (p2s L)).length := by
  conv => rhs; rw [← List.take_append_drop k L]
  unfold p2s
  rw [List.map_append, textL_app, List.length_append]; omega
end Go.Proofs.Ytdkkfcpnfhfjdaa
