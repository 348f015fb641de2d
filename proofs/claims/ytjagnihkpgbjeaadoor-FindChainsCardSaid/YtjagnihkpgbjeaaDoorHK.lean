import Derived.Test.YtjagnihkpgbjeaaDoorHJ
namespace Go.Proofs.YtjagnihkpgbjeaaDoor
open Go.RowKit Go.Maps Go.ChangeMaps
set_option linter.unusedVariables false
/-! A makefile that a law puts together: rules with targets, needs and recipes, each list in a block of its own. -/
/-- The texts L, in a block of their own. -/
def SB (w : World) (x : Value) (L : List Bs) : Prop := (x = .slice none 0 0 ∧ L = []) ∨ ∃ g, x = .slice (some ⟨g, 0, none⟩) L.length L.length ∧ w.heap[g]? = some (.cells (L.map encStr).toArray 9 (0, 0)) ∧ L.length ≤ 1000
theorem SB.sl {w : World} {x : Value} {L : List Bs} (h : SB w x L) : SlS w x L := by
  rcases h with h | ⟨g, rfl, h2, h3⟩
  · exact .inl h
  · exact sl_blk h2 h3
theorem SB.len {w : World} {x : Value} {L : List Bs} (h : SB w x L) : L.length ≤ 1000 := by
  rcases h with ⟨_, rfl⟩ | ⟨g, _, _, h3⟩
  · simp
  · exact h3
theorem SB.nil (w : World) : SB w (.slice none 0 0) [] := .inl ⟨rfl, rfl⟩
theorem SB.keep {w w' : World} {x : Value} {L : List Bs} (h : SB w x L) (hk : ∀ (g : Nat) (arr : Array Value), w.heap[g]? = some (.cells arr 9 (0, 0)) → w'.heap[g]? = some (.cells arr 9 (0, 0))) : SB w' x L := by
  rcases h with h | ⟨g, h1, h2, h3⟩
  · exact .inl h
  · exact .inr ⟨g, h1, hk g _ h2, h3⟩
theorem SB.below {w w' : World} {x : Value} {L : List Bs} (h : SB w x L) (hb : Below w.heap.size w w') : SB w' x L :=
  h.keep (fun g arr hg => (hb.block g (Array.getElem?_eq_some_iff.1 hg).1).trans hg)
theorem SB.one (w : World) (b : Bs) : SB (w.alloc (.cells #[.string (nameB b)] 9)) (.slice (some ⟨w.heap.size, 0, none⟩) 1 1) [b] :=
  .inr ⟨w.heap.size, rfl, heap_alloc_new w _, by simp⟩
structure R3 (w : World) (x : Value × Value × Value) (r : Rl) : Prop where
  t : SB w x.1 r.ts
  n : SB w x.2.1 r.ns
  k : SB w x.2.2 r.rc
structure Gr (w0 w : World) (b4 : Nat) (v : Value) (L : List Rl) : Prop where
  blk : w.heap[b4]? = some (.cells [.slice none 0 0, v].toArray 45 (0, 0))
  own : ∃ cs : List (Value × Value × Value), cs.length = L.length ∧ w.ownsRow w0.heap.size 48 3 v L.length (tri cs) ∧ ∀ i (h : i < L.length) (h' : i < cs.length), R3 w cs[i] L[i]
  old : Only (fun j => j = b4) w0 w
  lt : b4 < w0.heap.size
theorem Gr.below {w0 w w' : World} {b4 : Nat} {v : Value} {L : List Rl} (h : Gr w0 w b4 v L) (hb : Below w.heap.size w w') : Gr w0 w' b4 v L := by
  obtain ⟨cs, h1, h2, h3⟩ := h.own
  exact ⟨(hb.block _ (Array.getElem?_eq_some_iff.1 h.blk).1).trans h.blk, ⟨cs, h1, own_keep3 h2 hb, fun i hi hi' => ⟨(h3 i hi hi').t.below hb, (h3 i hi hi').n.below hb, (h3 i hi hi').k.below hb⟩⟩, h.old.trans (Only.of_below (S := fun j => j = b4) hb) (fun _ h => h) (fun _ _ h => h), h.lt⟩
theorem Gr.rsv {w0 w : World} {b4 : Nat} {v : Value} {L : List Rl} (h : Gr w0 w b4 v L) : RsV w v L := by
  obtain ⟨cs, hl, how, hr⟩ := h.own
  rcases how.2 with ⟨h1, h0⟩ | ⟨b, cap, cur, rfl, h2, h3, h4, h5, h6⟩
  · exact .inl ⟨h1, List.eq_nil_of_length_eq_zero h0⟩
  · refine .inr ⟨b, 0, cap, rfl, h4, h5, (Array.getElem?_eq_some_iff.1 h3).1, fun i hi => ?_⟩
    have hc : i < cs.length := by omega
    have e := tri_at cs i hc
    have hh := hr i hi hc
    rw [Nat.zero_add]
    exact ⟨_, _, _, by rw [World.ownsRow.cellAt how (i * 3) (by omega), e.1], by rw [World.ownsRow.cellAt how (i * 3 + 1) (by omega), e.2.1], by rw [World.ownsRow.cellAt how (i * 3 + 2) (by omega), e.2.2],
      hh.t.sl, hh.n.sl, hh.k.sl, by have := hh.t.len; omega, by have := hh.n.len; omega, by have := hh.k.len; omega⟩
theorem Gr.push {w0 w : World} {b4 : Nat} {v : Value} {L : List Rl} (h : Gr w0 w b4 v L) (m : Nat) (hm : L.length = m) (hl : m ≤ 1000) (x y z : Value) (r : Rl) (h3 : R3 w (x, y, z) r) :
    ∃ v' w3, (Builtin.append_ #[43, 43] 43 #[v, .slice (some ⟨w.heap.size, 0, none⟩) 1 1]).run Tryd.prog (w.alloc (.cells #[x, y, z] 48)) = .ok v' w3 ∧
      w3.cell? ⟨b4, 1, none⟩ = some v ∧ w3.frozen? ⟨b4, 1, none⟩ = false ∧ (∃ g c, v' = .slice (some ⟨g, 0, none⟩) (m + 1) c) ∧ Gr w0 (w3.setCell ⟨b4, 1, none⟩ v') b4 v' (L ++ [r]) := by
  subst hm
  obtain ⟨i0, hi, hz0, hz1, hz2⟩ := info_parts info48
  obtain ⟨w2, hw2⟩ : ∃ w2, w.alloc (.cells #[x, y, z] 48) = w2 := ⟨_, rfl⟩
  have hw0 : Below w.heap.size w w2 := hw2 ▸ below_alloc _ _
  have hs2 : w2.heap.size = w.heap.size + 1 := by rw [← hw2, size_alloc]
  have hn2 : w2.heap[w.heap.size]? = some (.cells #[x, y, z] 48 (0, 0)) := hw2 ▸ heap_alloc_new w _
  rw [hw2]
  have h2' := h.below hw0
  obtain ⟨cs, hcl, hown, hr⟩ := h2'.own
  have hsw := h.old.size
  obtain ⟨v', w3, e1, e2, e3, e4⟩ := run_append_own (P := Tryd.prog) w2 w0.heap.size 43 43 48 i0 _ 3 72 Tryd.underlying43 hi hz0 hz1 hz2 rfl (by decide) v L.length (tri cs) hown ⟨w.heap.size, 0, none⟩ 1 1 [x, y, z] rfl
    (fun j u hj => by
      rw [addk, Nat.zero_add]
      simp only [World.cell?, hn2]
      simpa using hj) (by
      intro u hu
      simp only [List.mem_cons, List.not_mem_nil, or_false] at hu
      rcases hu with rfl | rfl | rfl
      · exact oneCell_sl h3.t.sl
      · exact oneCell_sl h3.n.sl
      · exact oneCell_sl h3.k.sl) (by unfold maxLen; omega) (by omega) (by omega)
  have hty : ∀ (g : Nat) (arr : Array Value) (t : TypeId), t ≠ 48 → w2.heap[g]? = some (.cells arr t (0, 0)) → v.ownBlock ≠ some g := fun g arr t ht hg e => by
    rcases hown.2 with ⟨r1, _⟩ | ⟨b, cap, cur, r1, _, r3, _⟩
    · rw [r1] at e; cases e
    · rw [r1] at e
      injection e with e
      have e : b = g := e
      rw [e, hg] at r3
      injection r3 with r3
      injection r3 with _ r3 _
      exact ht r3
  have hb2 := h2'.blk
  have hkeep : ∀ (g : Nat) (arr : Array Value) (t : TypeId), t ≠ 48 → w2.heap[g]? = some (.cells arr t (0, 0)) → w3.heap[g]? = some (.cells arr t (0, 0)) := fun g arr t ht hg =>
    (e3.block g (Array.getElem?_eq_some_iff.1 hg).1 (fun e => hty g arr t ht hg e.symm)).trans hg
  have hb3 := hkeep b4 _ 45 (by decide) hb2
  have hkeep2 : ∀ (g : Nat) (arr : Array Value), w2.heap[g]? = some (.cells arr 9 (0, 0)) → (w3.setCell ⟨b4, 1, none⟩ v').heap[g]? = some (.cells arr 9 (0, 0)) := fun g arr hg => by
    have h3 := hkeep g arr 9 (by decide) hg
    have hne : g ≠ b4 := by
      intro e
      rw [e, hb3] at h3
      injection h3 with h3
      injection h3 with _ h3 _
      cases h3
    rw [Below.heap_setCell _ _ _ _ (by show g ≠ b4; exact hne)]; exact h3
  have h3w : R3 w2 (x, y, z) r := ⟨h3.t.below hw0, h3.n.below hw0, h3.k.below hw0⟩
  obtain ⟨g9, c9, hv9, _⟩ := e2.form (by omega)
  have hGr : Gr w0 (w3.setCell ⟨b4, 1, none⟩ v') b4 v' (L ++ [r]) := by
    refine ⟨set_of hb3 1 v', ⟨cs ++ [(x, y, z)], by simp [hcl], ?_, fun i hi' hi2 => ?_⟩, ?_, h.lt⟩
    · rw [tri_app, List.length_append]
      exact own_onlyS (F := fun j => j = b4) e2 ((Only.refl (fun j => j = b4) w3).set (.inl rfl) 1 v') (fun g hg e => by
        have := (e2.lt g hg).1
        have := h.lt
        omega)
    · by_cases e : i < cs.length
      · have hiL : i < L.length := by omega
        have := hr i hiL e
        rw [List.getElem_append_left e, List.getElem_append_left hiL]
        exact ⟨this.t.keep hkeep2, this.n.keep hkeep2, this.k.keep hkeep2⟩
      · have e2 : i = cs.length := by simp at hi2; omega
        subst e2
        rw [List.getElem_append_right (Nat.le_refl _), List.getElem_append_right (by omega)]
        simp only [hcl, Nat.sub_self, List.getElem_singleton]
        exact ⟨h3w.t.keep hkeep2, h3w.n.keep hkeep2, h3w.k.keep hkeep2⟩
    · refine ((h2'.old).trans (Only.of_grown (S := fun i => v.ownBlock = some i) e3 (fun k hk => hk)) (fun _ h => h) (fun i hi e => ?_)).set (.inl rfl) 1 v'
      have := (hown.lt i e).1
      omega
  exact ⟨v', w3, e1, cell_of hb3 1, free_of hb3 1, ⟨g9, c9, hv9⟩, hGr⟩
end Go.Proofs.YtjagnihkpgbjeaaDoor
