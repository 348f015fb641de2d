import Derived.Test.YtjagnihkpgbjeaaDoorH
namespace Go.Proofs.YtjagnihkpgbjeaaDoor
open Go.RowKit

theorem gb_below {w w' : World} (h : Below w.heap.size w w') : w.grownBy w' none := ⟨h.os, h.tape, h.output, h.size, fun k hk _ => h.block k hk⟩
theorem slice_some (g n c k : Nat) (hk : k ≤ c) :
    ∀ w, (Instr.slice 29 (.slice (some ⟨g, 0, none⟩) n c) none (some (.int .i64 k)) none).run Tryd.prog w = .ok (.slice (some ⟨g, 0, none⟩) k c) w := by
  intro w
  rw [run_slice_h (P := Tryd.prog) (w := w) 29 (some ⟨g, 0, none⟩) n c (by rw [elem30]; exact Tryd.underlying29) .i64 (k : Int) (by omega) (by omega), elem30, Tryd.sizeOf9]
  simp [Result.andThen, sliced, Addr.add]
theorem slice_nil : ∀ w, (Instr.slice 29 (.slice none 0 0) none (some (.int .i64 0)) none).run Tryd.prog w = .ok (.slice none 0 0) w := by
  intro w
  rw [run_slice_h (P := Tryd.prog) (w := w) 29 none 0 0 (by rw [elem30]; exact Tryd.underlying29) .i64 0 (by omega) (by omega), elem30, Tryd.sizeOf9]
  simp [Result.andThen, sliced]
/-- A row cut at its front: the slice and what it holds. -/
theorem own_cut {w : World} {B c : Nat} {A : Option Addr} {L : List Bs} {k : Nat} (h : w.ownsRow B 9 1 (.slice A L.length c) L.length (L.map encStr)) (hk : k ≤ L.length) :
    (∀ w', (Instr.slice 29 (.slice A L.length c) none (some (.int .i64 k)) none).run Tryd.prog w' = .ok (.slice A k c) w') ∧ StrsL w A (L.take k) := by
  have hs := strs_own h
  refine ⟨?_, fun hn => ?_⟩
  · rcases h.2 with ⟨h1, h0⟩ | ⟨g, c', cur, hv, _, _, h1, _⟩
    · injection h1 with e1 _ e3
      subst e1
      subst e3
      have : k = 0 := by omega
      subst this
      rw [h0]
      exact slice_nil
    · injection hv with e1 _ e3
      subst e1
      exact slice_some g L.length c k (by omega)
  · obtain ⟨g, off, e, hg, hc⟩ := hs (by rw [List.length_take] at hn; omega)
    refine ⟨g, off, e, hg, fun i hi => ?_⟩
    rw [List.length_take] at hi
    rw [hc i (by omega), List.getElem_take]

end Go.Proofs.YtjagnihkpgbjeaaDoor
