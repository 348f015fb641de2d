import Derived.Test.YthbemfpoanmjcaaDoorH
namespace Go.Proofs.YthbemfpoanmjcaaDoor
open Go.RowKit
set_option linter.unusedVariables false

theorem put_kp {B eb : Nat} {w : World} (hB : B ≤ eb) (k : Nat) (v : Value) : Kp B eb w (w.setCell ⟨eb, k, none⟩ v) :=
  ⟨(Below.refl _ _).setCell (p := ⟨eb, k, none⟩) hB _, fun i o hi hne _ => by
    rw [Below.heap_setCell _ _ _ _ (fun e => hne (by rw [e]))]; exact hi⟩
theorem put_at {w : World} {eb : Nat} {cs : Array Value} {t : TypeId} (h : w.heap[eb]? = some (.cells cs t (0, 0))) (k : Nat) (v : Value) : (w.setCell ⟨eb, k, none⟩ v).heap[eb]? = some (.cells (cs.setIfInBounds k v) t (0, 0)) := by
  simp [World.setCell, Array.getElem?_modify, h]
theorem own_put {w : World} {eb B n : Nat} {cs : Array Value} {vo : Value} {xs : List Value} (h : w.heap[eb]? = some (.cells cs 48 (0, 0))) (ho : w.ownsRow B 9 1 vo n xs) (k : Nat) (v : Value) : (w.setCell ⟨eb, k, none⟩ v).ownsRow B 9 1 vo n xs :=
  own_keep ho (fun g c hg => by
    rw [Below.heap_setCell _ _ _ _ (fun e => ?_)]
    · exact hg
    · have e : eb = g := e.symm
      subst e
      rw [h] at hg
      injection hg with hg
      injection hg with _ h4 _
      exact absurd h4 (by decide))
/-- One more reference is counted. -/
theorem Ex.count {B eb : Nat} {w : World} {lv av : Value} {l au : Prs} {cnt : Nat} {op : List ByteArray} (h : Ex B eb w lv av l au cnt op) (c : Nat) : Ex B eb (w.setCell ⟨eb, 2, none⟩ (.int .i64 c)) lv av l au c op := by
  obtain ⟨vo, h1, h2⟩ := h.vo
  have hb := (put_kp (w := w) h.le 2 (.int .i64 c)).bl
  exact ⟨h.le, ⟨vo, put_at h1 2 _, own_put h1 h2 2 _⟩, h.pl.mono hb (Nat.le_refl _), h.pa.mono hb (Nat.le_refl _), h.h0, mx_keep h.h0 h.mx hb⟩
/-- The row of open names is another one. -/
theorem Ex.opens {B eb : Nat} {w : World} {lv av : Value} {l au : Prs} {cnt : Nat} {op : List ByteArray} (h : Ex B eb w lv av l au cnt op) {vo : Value} {op2 : List ByteArray} (ho : w.ownsRow B 9 1 vo op2.length (op2.map .string)) : Ex B eb (w.setCell ⟨eb, 3, none⟩ vo) lv av l au cnt op2 := by
  obtain ⟨vo1, h1, h2⟩ := h.vo
  have hb := (put_kp (w := w) h.le 3 vo).bl
  exact ⟨h.le, ⟨vo, put_at h1 3 _, own_put h1 ho 3 _⟩, h.pl.mono hb (Nat.le_refl _), h.pa.mono hb (Nat.le_refl _), h.h0, mx_keep h.h0 h.mx hb⟩
/-- The expander's cells. -/
theorem Ex.cells {B eb : Nat} {w : World} {lv av : Value} {l au : Prs} {cnt : Nat} {op : List ByteArray} (h : Ex B eb w lv av l au cnt op) :
    ∃ vo, w.cell? ⟨eb, 0, none⟩ = some lv ∧ w.cell? ⟨eb, 1, none⟩ = some av ∧ w.cell? ⟨eb, 2, none⟩ = some (.int .i64 cnt) ∧ w.cell? ⟨eb, 3, none⟩ = some vo ∧ w.frozen? ⟨eb, 2, none⟩ = false ∧ w.frozen? ⟨eb, 3, none⟩ = false ∧ w.ownsRow B 9 1 vo op.length (op.map .string) ∧ ∃ a c, vo = .slice a op.length c := by
  obtain ⟨vo, h1, h2⟩ := h.vo
  refine ⟨vo, by rw [Lib.cell_of_heap h1]; rfl, by rw [Lib.cell_of_heap h1]; rfl, by rw [Lib.cell_of_heap h1]; rfl, by rw [Lib.cell_of_heap h1]; rfl, Lib.frozen_of_heap h1 2, Lib.frozen_of_heap h1 3, h2, ?_⟩
  rcases h2.2 with ⟨e1, e2⟩ | ⟨g, cap, cur, e1, _⟩
  · exact ⟨none, 0, by rw [e2]; exact e1⟩
  · exact ⟨_, cap, e1⟩
theorem own_shorter {w : World} {B g c : Nat} {l : List ByteArray} {x : ByteArray} (h : w.ownsRow B 9 1 (.slice (some ⟨g, 0, none⟩) (l.length + 1) c) (l.length + 1) ((l ++ [x]).map .string)) :
    w.ownsRow B 9 1 (.slice (some ⟨g, 0, none⟩) l.length c) l.length (l.map .string) := by
  refine ⟨by simp, .inr ?_⟩
  rcases h.2 with ⟨h1, _⟩ | ⟨b, cap, cur, h1, h2, h3, h4, h5, h6, h7⟩
  · cases h1
  · injection h1 with e1 _ e3
    injection e1 with e1
    injection e1 with e1 _ _
    subst e1
    subst e3
    refine ⟨g, c, cur, rfl, h2, h3, by omega, h5, h6, ?_⟩
    have := congrArg (List.take l.length) h7
    rw [List.take_take, Nat.mul_one, Nat.min_eq_left (by omega)] at this
    rw [Nat.mul_one, this]; simp
/-- One name is opened. -/
theorem Ex.push {B eb : Nat} {w : World} {lv av : Value} {l au : Prs} {cnt : Nat} {op : List ByteArray} (h : Ex B eb w lv av l au cnt op) (nm : ByteArray) (hl : op.length ≤ 1000) {vo : Value} (hvo : w.ownsRow B 9 1 vo op.length (op.map .string)) :
    ∃ g c w', (Builtin.append_ #[38, 38] 38 #[vo, .slice (some ⟨w.heap.size, 0, none⟩) 1 1]).run Tryd.prog (w.alloc (.cells #[.string nm] 9)) = .ok (.slice (some ⟨g, 0, none⟩) (op.length + 1) c) w' ∧
      (∃ vx, w'.cell? ⟨eb, 3, none⟩ = some vx) ∧ w'.frozen? ⟨eb, 3, none⟩ = false ∧ Ex B eb (w'.setCell ⟨eb, 3, none⟩ (.slice (some ⟨g, 0, none⟩) (op.length + 1) c)) lv av l au cnt (op ++ [nm]) ∧ Kp B eb w (w'.setCell ⟨eb, 3, none⟩ (.slice (some ⟨g, 0, none⟩) (op.length + 1) c)) := by
  obtain ⟨i0, hi, hz0, hz1, hz2⟩ := info_parts info9
  have hlt := h.lt
  have hB : B ≤ w.heap.size := Nat.le_trans h.le (Nat.le_of_lt hlt)
  have hw0 : Below w.heap.size w (w.alloc (.cells #[.string nm] 9)) := (Below.refl _ _).alloc (Nat.le_refl _) _
  have hown : (w.alloc (.cells #[.string nm] 9)).ownsRow B 9 1 vo op.length (op.map .string) := hvo.alloc _
  obtain ⟨v', w', h2, h3, h4, h5⟩ := run_append_own (P := Tryd.prog) (w.alloc (.cells #[.string nm] 9)) B 38 38 9 i0 _ 1 16 Tryd.underlying38 hi hz0 hz1 hz2 rfl (by decide) vo op.length _ hown ⟨w.heap.size, 0, none⟩ 1 1 [.string nm] rfl
    (fun j u hj => by
      match j, hj with
      | 0, hj => simp at hj; subst hj; rw [addn]; simp only [World.cell?, heap_alloc_new w]; rfl) (by
      intro u hu
      simp at hu; subst hu
      rfl) (by unfold maxLen; omega) (by omega) (by have := hw0.size; omega)
  have hform : ∃ g c, v' = .slice (some ⟨g, 0, none⟩) (op.length + 1) c := by
    rcases h3.2 with ⟨_, h0⟩ | ⟨g, cap, cur, e1, _⟩
    · omega
    · exact ⟨g, cap, e1⟩
  obtain ⟨g, c, rfl⟩ := hform
  have hkp : Kp B eb w w' := by
    have hrow : ∀ k, vo.ownBlock = some k → B ≤ k ∧ ∃ c fz, w.heap[k]? = some (.cells c 9 fz) := by
      intro k hk
      rcases hvo.2 with ⟨rfl, _⟩ | ⟨g', cap, cur, rfl, q1, q2, _⟩
      · simp [Value.ownBlock] at hk
      · simp [Value.ownBlock] at hk
        subst hk
        exact ⟨q1, cur, _, q2⟩
    refine ⟨(hw0.mono hB).trans ((Below.refl _ _).grown h4 (by have := hw0.size; omega) (fun k hk => (hown.lt k hk).1)), fun i o hio hne ho => ?_⟩
    have hil := (Array.getElem?_eq_some_iff.1 hio).1
    rw [h4.block i (Nat.lt_of_lt_of_le hil hw0.size) (fun e => ?_), hw0.block i hil]
    · exact hio
    · obtain ⟨_, c', fz, hc'⟩ := hrow i e.symm
      rw [hio] at hc'
      injection hc' with hc'
      exact ho _ _ hc'
  obtain ⟨vo1, q1, q2⟩ := h.vo
  have hebk : w'.heap[eb]? = some (.cells #[lv, av, .int .i64 cnt, vo1] 48 (0, 0)) := by
    have hne : vo.ownBlock ≠ some eb := Lib.ownBlock_ne hvo q1 (by decide)
    rw [h4.block eb (Nat.lt_of_lt_of_le hlt hw0.size) (fun e => hne e.symm), hw0.block eb hlt]; exact q1
  have hown2 : w'.ownsRow B 9 1 (.slice (some ⟨g, 0, none⟩) (op.length + 1) c) (op ++ [nm]).length ((op ++ [nm]).map .string) := by
    rw [List.length_append, List.map_append]; exact h3
  have hb := (put_kp (w := w') h.le 3 (.slice (some ⟨g, 0, none⟩) (op.length + 1) c)).bl
  refine ⟨g, c, w', h2, ⟨vo1, by rw [Lib.cell_of_heap hebk]; rfl⟩, Lib.frozen_of_heap hebk 3, ⟨h.le, ⟨_, put_at hebk 3 _, own_put hebk hown2 3 _⟩, h.pl.mono (hkp.bl.trans hb) (Nat.le_refl _), h.pa.mono (hkp.bl.trans hb) (Nat.le_refl _), h.h0, mx_keep h.h0 h.mx (hkp.bl.trans hb)⟩, hkp.trans (put_kp h.le 3 _)⟩
end Go.Proofs.YthbemfpoanmjcaaDoor
