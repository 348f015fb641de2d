import Derived.Test.YtjagnihkpgbjeaaDoorHF
import Derived.Laws.OwnMore
namespace Go.Proofs.YtjagnihkpgbjeaaDoor
open Go.RowKit Go.Maps Go.ChangeMaps
set_option linter.unusedVariables false
/-! A makefile that a law puts together: rules with targets alone, in a row of the call's own. -/
def rcell (p : Nat × List Bs) : Value × Value × Value := (.slice (some ⟨p.1, 0, none⟩) p.2.length p.2.length, .slice none 0 0, .slice none 0 0)
structure Gq (w0 w : World) (b4 : Nat) (v : Value) (L : List (List Bs)) : Prop where
  blk : w.heap[b4]? = some (.cells [.slice none 0 0, v].toArray 45 (0, 0))
  own : ∃ cs : List Nat, cs.length = L.length ∧ w.ownsRow w0.heap.size 48 3 v L.length (tri ((cs.zip L).map rcell)) ∧ ∀ i (h : i < L.length) (h' : i < cs.length), w.heap[cs[i]]? = some (.cells (L[i].map encStr).toArray 9 (0, 0)) ∧ L[i].length ≤ 1000
  old : Only (fun j => j = b4) w0 w
  lt : b4 < w0.heap.size
theorem sl_blk {w : World} {g : Nat} {L : List Bs} (h : w.heap[g]? = some (.cells (L.map encStr).toArray 9 (0, 0))) (hl : L.length ≤ 1000) : SlS w (.slice (some ⟨g, 0, none⟩) L.length L.length) L := by
  refine .inr ⟨g, 0, L.length, rfl, Nat.le_refl _, by omega, (Array.getElem?_eq_some_iff.1 h).1, fun i hi => ?_⟩
  rw [Nat.zero_add, cell_of h i, List.getElem?_map, List.getElem?_eq_getElem hi]; rfl
theorem Gq.rsv {w0 w : World} {b4 : Nat} {v : Value} {L : List (List Bs)} (h : Gq w0 w b4 v L) : RsV w v (L.map fun ts => ⟨ts, [], []⟩) := by
  obtain ⟨cs, hl, how, hr⟩ := h.own
  rcases how.2 with ⟨h1, h0⟩ | ⟨b, cap, cur, rfl, h2, h3, h4, h5, h6⟩
  · exact .inl ⟨h1, by rw [List.eq_nil_of_length_eq_zero h0]; rfl⟩
  · refine .inr ⟨b, 0, cap, by rw [List.length_map], by rw [List.length_map]; exact h4, h5, (Array.getElem?_eq_some_iff.1 h3).1, fun i hi => ?_⟩
    rw [List.length_map] at hi
    have hc : i < cs.length := by omega
    have hz : i < ((cs.zip L).map rcell).length := by simp; omega
    have e := tri_at ((cs.zip L).map rcell) i hz
    have e2 : ((cs.zip L).map rcell)[i] = rcell (cs[i], L[i]) := by simp
    rw [e2] at e
    obtain ⟨hh, hh2⟩ := hr i hi hc
    rw [Nat.zero_add]
    refine ⟨_, _, _, by rw [World.ownsRow.cellAt how (i * 3) (by omega), e.1], by rw [World.ownsRow.cellAt how (i * 3 + 1) (by omega), e.2.1], by rw [World.ownsRow.cellAt how (i * 3 + 2) (by omega), e.2.2], ?_⟩
    rw [List.getElem_map]
    exact ⟨sl_blk hh hh2, sl0 _, sl0 _, by show L[i].length ≤ _; omega, by show (0 : Nat) ≤ _; omega, by show (0 : Nat) ≤ _; omega⟩
theorem tri_set (A : List (Value × Value × Value)) (a b c u : Value) : (tri (A ++ [(a, b, c)])).set (A.length * 3) u = tri (A ++ [(u, b, c)]) := by
  rw [tri_app, tri_app, ← tri_len, List.set_append_right _ _ (Nat.le_refl _), Nat.sub_self]
  rfl
theorem Gq.push {w0 w : World} {b4 : Nat} {v : Value} {L : List (List Bs)} (h : Gq w0 w b4 v L) (hl : L.length ≤ 1000) (ts : List Bs) (ht : ts.length ≤ 1000) (arr : Array Value) (harr : arr = (ts.map encStr).toArray) (n : Nat) (hn : ts.length = n) :
    ∃ v' w3, (Builtin.append_ #[43, 43] 43 #[v, .slice (some ⟨w.heap.size + 1, 0, none⟩) 1 1]).run Tryd.prog ((w.alloc (.cells arr 9)).alloc (.cells #[.slice (some ⟨w.heap.size, 0, none⟩) n n, .slice none 0 0, .slice none 0 0] 48)) = .ok v' w3 ∧
      w3.heap[b4]? = some (.cells [.slice none 0 0, v].toArray 45 (0, 0)) ∧ (∃ a c, v' = .slice a (L.length + 1) c) ∧ Gq w0 (w3.setCell ⟨b4, 1, none⟩ v') b4 v' (L ++ [ts]) := by
  subst harr
  subst hn
  obtain ⟨i0, hi, hz0, hz1, hz2⟩ := info_parts info48
  obtain ⟨w2, hw2⟩ : ∃ w2, (w.alloc (.cells (ts.map encStr).toArray 9)).alloc (.cells #[.slice (some ⟨w.heap.size, 0, none⟩) ts.length ts.length, .slice none 0 0, .slice none 0 0] 48) = w2 := ⟨_, rfl⟩
  have hsz1 : (w.alloc (.cells (ts.map encStr).toArray 9)).heap.size = w.heap.size + 1 := size_alloc _ _
  have hw0 : Below w.heap.size w w2 := hw2 ▸ below_trans (below_alloc _ _) (below_alloc _ _)
  have hs2 : w2.heap.size = w.heap.size + 1 + 1 := by rw [← hw2, size_alloc, size_alloc]
  have hn1 : w2.heap[w.heap.size]? = some (.cells (ts.map encStr).toArray 9 (0, 0)) := by
    rw [← hw2, Below.heap_alloc _ _ _ (by rw [hsz1]; omega)]; exact heap_alloc_new w _
  have hn2 : w2.heap[w.heap.size + 1]? = some (.cells #[.slice (some ⟨w.heap.size, 0, none⟩) ts.length ts.length, .slice none 0 0, .slice none 0 0] 48 (0, 0)) := by
    rw [← hw2, ← hsz1]; exact heap_alloc_new _ _
  rw [hw2]
  obtain ⟨cs, hcl, how, hr⟩ := h.own
  have hown := own_keep3 how hw0
  have hsw := h.old.size
  obtain ⟨v', w3, e1, e2, e3, e4⟩ := run_append_own (P := Tryd.prog) w2 w0.heap.size 43 43 48 i0 _ 3 72 Tryd.underlying43 hi hz0 hz1 hz2 rfl (by decide) v L.length (tri ((cs.zip L).map rcell)) hown ⟨w.heap.size + 1, 0, none⟩ 1 1 [.slice (some ⟨w.heap.size, 0, none⟩) ts.length ts.length, .slice none 0 0, .slice none 0 0] rfl
    (fun j u hj => by
      rw [addk, Nat.zero_add]
      simp only [World.cell?, hn2]
      simpa using hj) (by
      intro u hu
      simp only [List.mem_cons, List.not_mem_nil, or_false] at hu
      rcases hu with rfl | rfl | rfl <;> rfl) (by unfold maxLen; omega) (by omega) (by omega)
  -- the row's block bears another type
  have hty : ∀ (g : Nat) (arr : Array Value) (t : TypeId), t ≠ 48 → w2.heap[g]? = some (.cells arr t (0, 0)) → v.ownBlock ≠ some g := fun g arr t ht hg e => by
    rcases hown.2 with ⟨r1, _⟩ | ⟨b, cap, cur, r1, _, r3, _⟩
    · rw [r1] at e; cases e
    · rw [r1] at e
      injection e with e
      have e : b = g := e
      rw [e, hg] at r3
      injection r3 with r3
      injection r3 with _ r3 _
      exact ht r3
  have hb2 : w2.heap[b4]? = some (.cells [.slice none 0 0, v].toArray 45 (0, 0)) := (hw0.block b4 (Array.getElem?_eq_some_iff.1 h.blk).1).trans h.blk
  have hkeep : ∀ (g : Nat) (arr : Array Value) (t : TypeId), t ≠ 48 → w2.heap[g]? = some (.cells arr t (0, 0)) → w3.heap[g]? = some (.cells arr t (0, 0)) := fun g arr t ht hg =>
    (e3.block g (Array.getElem?_eq_some_iff.1 hg).1 (fun e => hty g arr t ht hg e.symm)).trans hg
  have hb3 := hkeep b4 _ 45 (by decide) hb2
  have hform : ∃ a c, v' = .slice a (L.length + 1) c := by
    rcases e2.2 with ⟨r1, r0⟩ | ⟨b, cap, cur, r1, _⟩
    · omega
    · exact ⟨_, _, r1⟩
  have hkeep2 : ∀ (g : Nat) (arr : Array Value), w2.heap[g]? = some (.cells arr 9 (0, 0)) → (w3.setCell ⟨b4, 1, none⟩ v').heap[g]? = some (.cells arr 9 (0, 0)) := fun g arr hg => by
    have h3 := hkeep g arr 9 (by decide) hg
    have hne : g ≠ b4 := by
      intro e
      rw [e, hb3] at h3
      injection h3 with h3
      injection h3 with _ h3 _
      cases h3
    rw [Below.heap_setCell _ _ _ _ (by show g ≠ b4; exact hne)]; exact h3
  refine ⟨v', w3, e1, hb3, hform, ⟨set_of hb3 1 v', ⟨cs ++ [w.heap.size], by simp [hcl], ?_, fun i hi' hi2 => ?_⟩, ?_, h.lt⟩⟩
  · have hz : (cs ++ [w.heap.size]).zip (L ++ [ts]) = cs.zip L ++ [(w.heap.size, ts)] := by
      rw [List.zip_append hcl]; rfl
    rw [hz, List.map_append, tri_app, List.length_append]
    exact own_onlyS (F := fun j => j = b4) e2 ((Only.refl (fun j => j = b4) w3).set (.inl rfl) 1 v') (fun g hg e => by
      have := (e2.lt g hg).1
      have := h.lt
      omega)
  · by_cases e : i < cs.length
    · have hiL : i < L.length := by omega
      have := hr i hiL e
      rw [List.getElem_append_left e, List.getElem_append_left hiL]
      exact ⟨hkeep2 _ _ ((hw0.block _ (Array.getElem?_eq_some_iff.1 this.1).1).trans this.1), this.2⟩
    · have e2 : i = cs.length := by simp at hi2; omega
      subst e2
      rw [List.getElem_append_right (Nat.le_refl _), List.getElem_append_right (by omega)]
      simp only [Nat.sub_self, List.getElem_singleton]
      exact ⟨hkeep2 _ _ hn1, ht⟩
  · refine ((h.old.trans (Only.of_below (S := fun j => j = b4) hw0) (fun _ h => h) (fun _ _ h => h)).trans (Only.of_grown (S := fun i => v.ownBlock = some i) e3 (fun k hk => hk)) (fun _ h => h) (fun i hi e => ?_)).set (.inl rfl) 1 v'
    have := (hown.lt i e).1
    omega
/-- The last rule's targets are put anew. -/
theorem Gq.fix {w0 w : World} {b4 g cap : Nat} {L : List (List Bs)} {ts : List Bs} (h : Gq w0 w b4 (.slice (some ⟨g, 0, none⟩) (L.length + 1) cap) (L ++ [ts])) (us : List Bs) (hu : us.length ≤ 1000) (arr : Array Value) (harr : arr = (us.map encStr).toArray) (n : Nat) (hn : us.length = n) :
    (∃ x, (w.alloc (.cells arr 9)).cell? ⟨g, L.length * 3, none⟩ = some x) ∧ (w.alloc (.cells arr 9)).frozen? ⟨g, L.length * 3, none⟩ = false ∧
    Gq w0 ((w.alloc (.cells arr 9)).setCell ⟨g, L.length * 3, none⟩ (.slice (some ⟨w.heap.size, 0, none⟩) n n)) b4 (.slice (some ⟨g, 0, none⟩) (L.length + 1) cap) (L ++ [us]) := by
  subst harr
  subst hn
  obtain ⟨w2, hw2⟩ : ∃ w2, w.alloc (.cells (us.map encStr).toArray 9) = w2 := ⟨_, rfl⟩
  have hw0 : Below w.heap.size w w2 := hw2 ▸ below_alloc _ _
  have hn1 : w2.heap[w.heap.size]? = some (.cells (us.map encStr).toArray 9 (0, 0)) := hw2 ▸ heap_alloc_new w _
  rw [hw2]
  obtain ⟨cs, hcl, how, hr⟩ := h.own
  have hown := own_keep3 how hw0
  have hll : (L ++ [ts]).length = L.length + 1 := by simp
  rw [hll] at hown
  have hcs : cs ≠ [] := fun e => by rw [e] at hcl; simp at hcl
  obtain ⟨cs', c, rfl⟩ : ∃ cs' c, cs = cs' ++ [c] := by
    rcases List.eq_nil_or_concat cs with e | ⟨a, b, e⟩
    · exact absurd e hcs
    · exact ⟨a, b, by simpa using e⟩
  have hcl' : cs'.length = L.length := by simp at hcl; exact hcl
  have hz : (cs' ++ [c]).zip (L ++ [ts]) = cs'.zip L ++ [(c, ts)] := by rw [List.zip_append hcl']; rfl
  have hz2 : (cs' ++ [w.heap.size]).zip (L ++ [us]) = cs'.zip L ++ [(w.heap.size, us)] := by rw [List.zip_append hcl']; rfl
  rw [hz, List.map_append] at hown
  have hlm : ((cs'.zip L).map rcell).length = L.length := by simp; omega
  obtain ⟨st1, st2⟩ := World.ownsRow.stored hown (L.length * 3) (.slice (some ⟨w.heap.size, 0, none⟩) us.length us.length)
  have hset : (tri ((cs'.zip L).map rcell ++ [(c, ts)].map rcell)).set (L.length * 3) (.slice (some ⟨w.heap.size, 0, none⟩) us.length us.length) = tri ((cs'.zip L).map rcell ++ [(w.heap.size, us)].map rcell) := by
    have := tri_set ((cs'.zip L).map rcell) (.slice (some ⟨c, 0, none⟩) ts.length ts.length) (.slice none 0 0) (.slice none 0 0) (.slice (some ⟨w.heap.size, 0, none⟩) us.length us.length)
    rw [hlm] at this
    exact this
  rw [hset] at st1
  have hty : ∀ (x : Nat) (arr : Array Value) (t : TypeId), t ≠ 48 → w2.heap[x]? = some (.cells arr t (0, 0)) → x ≠ g := fun x arr t ht hg e => by
    rcases hown.2 with ⟨r1, _⟩ | ⟨b, cap', cur, r1, _, r3, _⟩
    · cases r1
    · injection r1 with r1 _ _
      injection r1 with r1
      injection r1 with r1 _ _
      rw [← r1, ← e, hg] at r3
      injection r3 with r3
      injection r3 with _ r3 _
      exact ht r3
  have hb2 : w2.heap[b4]? = some (.cells [.slice none 0 0, .slice (some ⟨g, 0, none⟩) (L.length + 1) cap].toArray 45 (0, 0)) := (hw0.block b4 (Array.getElem?_eq_some_iff.1 h.blk).1).trans h.blk
  have hkeep : ∀ (x : Nat) (arr : Array Value) (t : TypeId), t ≠ 48 → w2.heap[x]? = some (.cells arr t (0, 0)) → (w2.setCell ⟨g, L.length * 3, none⟩ (.slice (some ⟨w.heap.size, 0, none⟩) us.length us.length)).heap[x]? = some (.cells arr t (0, 0)) := fun x arr t ht hg => by
    rw [Below.heap_setCell _ _ _ _ (by show x ≠ g; exact hty x arr t ht hg)]; exact hg
  have hg0 := (hown.lt g rfl).1
  refine ⟨?_, World.ownsRow.frozenAt hown _, ⟨hkeep b4 _ 45 (by decide) hb2, ⟨cs' ++ [w.heap.size], by simp [hcl'], by rw [hz2, List.map_append]; simpa using st1, fun i hi' hi2 => ?_⟩, ?_, h.lt⟩⟩
  · rw [World.ownsRow.cellAt hown (L.length * 3) (by omega)]
    have e := tri_at ((cs'.zip L).map rcell ++ [(c, ts)].map rcell) L.length (by rw [List.length_append, hlm]; simp)
    exact ⟨_, e.1⟩
  · by_cases e : i < cs'.length
    · have hiL : i < L.length := by omega
      have hi3 : i < (L ++ [ts]).length := by simp; omega
      have hi4 : i < (cs' ++ [c]).length := by simp; omega
      have := hr i hi3 hi4
      rw [List.getElem_append_left e, List.getElem_append_left hiL] at this
      rw [List.getElem_append_left e, List.getElem_append_left hiL]
      exact ⟨hkeep _ _ 9 (by decide) ((hw0.block _ (Array.getElem?_eq_some_iff.1 this.1).1).trans this.1), this.2⟩
    · have e2 : i = cs'.length := by simp at hi2; omega
      subst e2
      rw [List.getElem_append_right (Nat.le_refl _), List.getElem_append_right (by omega)]
      simp only [Nat.sub_self, hcl', List.getElem_singleton]
      exact ⟨hkeep _ _ 9 (by decide) hn1, hu⟩
  · have ho : Only (fun j => j = b4) w w2 := Only.of_below hw0
    refine (h.old.trans ho (fun _ h => h) (fun _ _ h => h)).set (.inr hg0) _ _
end Go.Proofs.YtjagnihkpgbjeaaDoor
