import Derived.Test.YthbemfpoanmjcaaDoorAD
namespace Go.Proofs.YthbemfpoanmjcaaDoor
open Go.RowKit
set_option linter.unusedVariables false

theorem app_some {w0 w : World} {v : Value} {l : List ByteArray} (h : Wn w0 w v l) (hl : l.length ≤ 1000) (m : List ByteArray) (hm : m.length ≤ 1000) (a : Addr) (c : Nat) (hc : ∀ i (h : i < m.length), w.cell? (a.add i) = some (.string m[i])) :
    ∃ v' w', (Builtin.append_ #[38, 38] 38 #[v, .slice (some a) m.length c]).run Tryd.prog w = .ok v' w' ∧ Wn w0 w' v' (l ++ m) := by
  obtain ⟨i0, hi, hz0, hz1, hz2⟩ := info_parts info9
  obtain ⟨v', w', h2, h3, h4, h5⟩ := run_append_own (P := Tryd.prog) w w0.heap.size 38 38 9 i0 _ 1 16 Tryd.underlying38 hi hz0 hz1 hz2 rfl (by decide) v l.length _ h.own a m.length c (m.map .string) (by simp)
    (fun j u hj => by
      rw [List.getElem?_map] at hj
      obtain ⟨x, hx, rfl⟩ := Option.map_eq_some_iff.1 hj
      obtain ⟨h8, rfl⟩ := List.getElem?_eq_some_iff.1 hx
      exact hc j h8) (by
      intro u hu
      obtain ⟨x, _, rfl⟩ := List.mem_map.1 hu
      rfl) (by unfold maxLen; omega) (by omega) h.old.size
  refine ⟨v', w', h2, by rw [List.map_append, List.length_append]; exact h3, ?_⟩
  exact h.old.trans ((Only.of_grown (S := fun i => v.ownBlock = some i) h4 (fun k hk => hk)).below (fun k hk => (h.own.lt k hk).1) h.old.size)
theorem app_none (w : World) (c : Nat) : (Builtin.append_ #[38, 38] 38 #[.slice none 0 0, .slice none 0 c]).run Tryd.prog w = .ok (.slice none 0 0) w := by
  rfl
theorem app_nil {w : World} {vv : Value} {m : List ByteArray} (hT : Txt w vv m) (hm : m.length ≤ 1000) : ∃ v' w', (Builtin.append_ #[38, 38] 38 #[.slice none 0 0, vv]).run Tryd.prog w = .ok v' w' ∧ Wn w w' v' m := by
  obtain ⟨a, c, rfl, hc⟩ := hT.form
  cases a with
  | some a =>
    have := app_some (Wn.nil w) (by simp) m hm a c (fun i hi => by
      obtain ⟨b, off, e1, e2, e3⟩ := hc i hi
      injection e1 with e1
      subst e1
      rw [addn]; exact e3)
    exact this
  | none =>
    cases m with
    | nil => exact ⟨_, _, app_none w c, Wn.nil w⟩
    | cons x m => obtain ⟨b, off, e1, _⟩ := hc 0 (by simp); cases e1
theorem app_two {w0 w : World} {v : Value} {l : List ByteArray} (h : Wn w0 w v l) (hl : l.length ≤ 900) (x y : ByteArray) :
    ∃ v' w', (Builtin.append_ #[38, 38] 38 #[v, .slice (some ⟨w.heap.size, 0, none⟩) 2 2]).run Tryd.prog (w.alloc (.cells #[.string x, .string y] 9)) = .ok v' w' ∧ Wn w0 w' v' (l ++ [x, y]) :=
  app_some (h.below ((Below.refl _ _).alloc (Nat.le_refl _) _)) (by omega) [x, y] (by simp) ⟨w.heap.size, 0, none⟩ 2 (fun i hi => by
    rw [addn, Nat.zero_add]
    simp only [World.cell?, heap_alloc_new w]
    match i, hi with
    | 0, _ => rfl
    | 1, _ => rfl)
end Go.Proofs.YthbemfpoanmjcaaDoor
